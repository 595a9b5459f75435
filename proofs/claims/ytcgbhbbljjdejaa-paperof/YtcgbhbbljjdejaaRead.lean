/-
  The function read of package paper, by a contract.
-/
import Derived.Test.YtcgbhbbljjdejaaValue
import Derived.Test.YtcgbhbbljjdejaaUnder
import Derived.Deep.RegionLaw
namespace Go.Proofs.Ytcgbhbbljjdejaa
open Go.RowKit
attribute [local go_sem] cell?_more frozen?_more setCell_more size_more tape_more drew_more drewN_more more_drew more_drewN one_out plus_out plus_end lt_one le_p2 le_p3 le_p4 le_p5 le_p6 le_p7 le_p8 le_p9 le_p10 le_p11 le_p12 le_p13 le_p14 le_p15 le_p16 le_p17 le_p18 le_p19 le_p20 le_p21 le_p22 le_p23 le_p24 le_q0 le_q1 lt_q1 le_q2 lt_q2 le_q3 lt_q3 le_q4 lt_q4 le_q5 lt_q5 le_q6 lt_q6 le_q7 lt_q7 le_q8 lt_q8 le_q9 lt_q9 le_q10 lt_q10 le_q11 lt_q11 le_q12 lt_q12 le_q13 lt_q13 le_q14 lt_q14 le_q15 lt_q15 le_q16 lt_q16 le_q17 lt_q17 le_q18 lt_q18 le_q19 lt_q19 le_q20 lt_q20 le_q21 lt_q21 le_q22 lt_q22 le_q23 lt_q23 le_q24 lt_q24

theorem Tr.below {ok : Nat → Prop} {d : Nat} {w w' : World} {s : Value} {ts : List T} (h : Tr ok d w s ts) (hb : Below w.heap.size w w') : Tr ok d w' s ts :=
  h.frame hb.size (fun b _ hlt => hb.block b hlt) (fun _ h => h)

/-- The field that is read off two cells. -/
def fOf (p q : T) : F := if h : p.text.size ≤ 9223372036854775807 then ⟨p.text, valOf q, h⟩ else ⟨⟨#[]⟩, valOf q, by decide⟩

/-- What read takes, so many being there. -/
def rd : Nat → List T → List F
  | _, [] => []
  | n, t :: r => match t.list with
    | [p, q] => if n = 16 then [] else fOf p q :: rd (n + 1) r
    | _ => []

theorem rd_stop {n : Nat} {t : T} {r : List T} (h : ¬ t.list.length = 2) : rd n (t :: r) = [] := by
  unfold rd
  split
  · rename_i p q e
    rw [e] at h
    simp at h
  · rfl

theorem rd_full {t : T} {r : List T} : rd 16 (t :: r) = [] := by
  unfold rd
  split
  · simp
  · rfl

theorem rd_next {n : Nat} {t p q : T} {r : List T} (h : t.list = [p, q]) (hn : ¬ n = 16) : rd n (t :: r) = fOf p q :: rd (n + 1) r := by
  simp [rd, h, hn]

/-- append, as one step of a region that draws its order. -/
theorem own_step {ops : Array Oper} {o : Oper} {a : Act} {w : World} {K : Act → World → Prop} {Q : Exit → Act → World → Prop} {E : Prop} (hgd : o.guard = none) (s x : Operand) (ho : o.op = .call { callee := .builtin .append, args := #[s, x], argTypes := #[23, 23] })
    {B : Nat} {v : Value} {fs : List F} {W0 : World} (h : Own B v fs W0 w) (hs : a.eval s = v) {x' : Value} {gs : List F} (hg : Lst w x' gs) (hx : a.eval x = x') (hlen : fs.length + gs.length ≤ 100000)
    (hk : ∀ v' w', Own B v' (fs ++ gs) W0 w' → K (a.put o.dst v') w') : if Region.wanted o (yielded ops a.tmps) = true then Oper.wp Try.prog o a w K Q else E := by
  have hw : Region.wanted o (yielded ops a.tmps) = true := by simp [Region.wanted, hgd]
  rw [if_pos hw]
  obtain ⟨v', w', hr, h2⟩ := own_append w B o.type v fs W0 h x' gs hg hlen
  exact Lib.wp_append_run w s x 23 23 ho v x' hs hx v' w' hr (hk v' w' h2)

/-- A call of a function by its contract, as one step of a region that draws its order. -/
theorem call_step {ops : Array Oper} {o : Oper} {a : Act} {w : World} {K : Act → World → Prop} {Q : Exit → Act → World → Prop} {E : Prop} (hg : o.guard = none) (f : FuncId) (x : Operand) (t : TypeId)
    (_ho : o.op = .call { callee := .value (.func f), args := #[x], argTypes := #[t] }) (v : Value) (hx : a.eval x = v) {R : Value → World → Prop}
    (hc : Calls Try.prog f #[v] w fun e w' => ∃ u, e = .returned u ∧ R u w') (hrun : (execOp a.eval o).run Try.prog w = .ok (.enter f #[a.eval x]) w) (hk : ∀ u w', R u w' → K (a.put o.dst u) w') : if Region.wanted o (yielded ops a.tmps) = true then Oper.wp Try.prog o a w K Q else E := by
  have hw : Region.wanted o (yielded ops a.tmps) = true := by simp [Region.wanted, hg]
  rw [if_pos hw]
  unfold Oper.wp
  rw [hrun, hx]
  simp only [Oper.upon]
  refine hc.mono ?_
  rintro e w' ⟨u, rfl, hR⟩
  exact hk u w' hR

set_option maxHeartbeats 3000000 in
theorem read_any {ok : Nat → Prop} {d : Nat} (c : T) (s : Value) (w : World) (h : Tr ok (d + 2) w s c.list) (hlen : c.list.length ≤ 1000) :
    Calls Try.prog 41 #[cellV c s] w fun e w' => ∃ r, e = .returned r ∧ Lst w' r (rd 0 c.list) ∧ Adds w w' := by
  obtain ⟨ao, cap, rfl, hcap, hlo⟩ := h
  simp only [cellV]
  generalize c.kind = ck at *
  generalize c.num = cn at *
  generalize c.text = cx at *
  generalize c.list = ts at *
  go_enter Try.func41, Try.ntmps41
  go_wp2
  go_loopw [3, 9] (fun nv i w2 => ∃ (k : Nat) (l : List F), k ≤ ts.length ∧ i = .int .i64 k ∧ l.length = k ∧ l ++ rd k (ts.drop k) = rd 0 ts ∧ Own w.heap.size nv l w w2) (fun _ i _ => ts.length - (intOf i).toNat)
  case atStart =>
    refine ⟨0, [], Nat.zero_le _, rfl, rfl, by simp, ?_⟩
    exact (Own.nil w.heap.size w (Nat.le_refl _)).alloc _
  case round =>
    obtain ⟨_, l, hk, rfl, rfl, hrd, hown⟩ := hrel
    have HR : Hid _ := hrd
    clear hrd
    by_cases hlt : l.length < ts.length
    · rcases hlo with rfl | ⟨b, off, rfl, hbb, hok, hx⟩
      · simp at hlt
      obtain ⟨x, ⟨c0, c1, c2, c3⟩, hsz, htr⟩ := hx l.length hlt
      have hb := hown.2.1
      have hcell := fun i => hb.cell (p := ⟨b, i, none⟩) hbb
      have HD : Hid (ts.drop l.length = ts[l.length] :: ts.drop (l.length + 1)) := List.drop_eq_getElem_cons hlt
      generalize ts[l.length] = t at *
      rw [← hcell] at c0 c1 c2 c3
      clear hcell hx
      have hfin := hown.lst
      by_cases h2 : t.list.length = 2
      · by_cases h16 : l.length = 16
        · obtain ⟨xo, xc, rfl⟩ := htr.shape
          have HE : Hid (rd 0 ts = l) := by
            show rd 0 ts = l
            rw [← HR.out, HD.out, h16, rd_full, List.append_nil]
          obtain ⟨no, nc, rfl⟩ : ∃ no nc, u3 = .slice no l.length nc := by
            obtain ⟨no, nc, e, _⟩ := hfin
            exact ⟨no, nc, e⟩
          have h16' : ((l.length : Int) == 16) = true := by simp; omega
          generalize t.kind = tk at *
          generalize t.num = tn at *
          generalize t.text = tx at *
          generalize t.list.length = tl at *
          subst h2
          clear htr HD h16
          go_wp2
          go_ret
          refine ⟨_, rfl, ?_, ?_⟩
          · rw [HE.out]
            exact hfin.adds (by repeat (first | with_reducible exact Adds.refl _ | with_reducible refine Adds.alloc ?_ _ | with_reducible refine Adds.more ?_ _ _ | with_reducible refine Adds.drew ?_ | with_reducible refine Adds.drewN ?_ _))
          · exact Adds.of (hb.trans (((Adds.refl wr).alloc _).below.mono hb.size))
        · obtain ⟨p, q, hpq⟩ : ∃ p q, t.list = [p, q] := by
            match hq : t.list, h2 with
            | [p, q], _ => exact ⟨p, q, rfl⟩
          rw [hpq] at htr
          obtain ⟨xo, xc, rfl, _, h0 | ⟨b', off', rfl, hb', hok', hx'⟩⟩ := htr
          · exact absurd h0 (by simp)
          obtain ⟨y0, ⟨p0, p1, p2, p3⟩, hps, _⟩ := hx' 0 (by simp)
          obtain ⟨y1, ⟨q0, q1, q2, q3⟩, _, hqt⟩ := hx' 1 (by simp)
          simp only [List.length_cons, List.length_nil, List.getElem_cons_zero, List.getElem_cons_succ, Nat.zero_mul, Nat.add_zero, Nat.one_mul, Nat.zero_add, Nat.reduceAdd] at p0 p1 p2 p3 q0 q1 q2 q3 c3 hps
          have hcell := fun i => hb.cell (p := ⟨b', i, none⟩) hb'
          rw [← hcell] at p2 q0 q1 q2 q3
          clear hcell hx' p0 p1 p3
          have HN : Hid (l ++ [fOf p q] ++ rd (l.length + 1) (ts.drop (l.length + 1)) = rd 0 ts) := by
            show _ = rd 0 ts
            rw [← HR.out, HD.out, rd_next hpq h16]
            simp
          have HF : Hid (fOf p q = ⟨p.text, valOf q, hps⟩) := by
            show fOf p q = _
            simp [fOf, hps]
          obtain ⟨no, nc, rfl⟩ : ∃ no nc, u3 = .slice no l.length nc := by
            obtain ⟨no, nc, e, _⟩ := hfin
            exact ⟨no, nc, e⟩
          obtain ⟨yo, yc, rfl⟩ := hqt.shape
          have kV := fun W (hA : Adds wr W) => valueOf_any q _ W ((hqt.below hb).adds hA)
          have h16' : ((l.length : Int) == 16) = false := by simp; omega
          have hb'' := Nat.lt_of_lt_of_le hb' hb.size
          simp only [cellV, V.val] at kV
          clear hfin hqt HD HR hbb
          generalize t.kind = tk at *
          generalize t.num = tn at *
          generalize t.text = tx at *
          go_wp2
          go_region_law (first
            | (refine call_step (R := fun u w' => u = .agg #[.int .i64 (valOf q).kind, .int .i64 (valOf q).num, .string (valOf q).text, .int .i64 (valOf q).re, .int .i64 (valOf q).im] ∧ Adds _ w') rfl 50 (.tmp 31) 50 rfl _ rfl ((kV _ (by repeat (first | with_reducible exact Adds.refl _ | with_reducible refine Adds.alloc ?_ _ | with_reducible refine Adds.more ?_ _ _ | with_reducible refine Adds.drew ?_ | with_reducible refine Adds.drewN ?_ _))).mono fun e w' h => ⟨_, h.1, rfl, h.2⟩) (by go_simp) ?_; rintro u1 w1 ⟨rfl, os1, n1, rfl⟩)
            | (refine own_step rfl (.tmp 22) (.tmp 34) rfl (hown.adds (by repeat (first | with_reducible exact Adds.refl _ | with_reducible refine Adds.alloc ?_ _ | with_reducible refine Adds.more ?_ _ _ | with_reducible refine Adds.drew ?_ | with_reducible refine Adds.drewN ?_ _))) rfl (lst_new (f := ⟨p.text, valOf q, hps⟩) (by simp [go_sem])) rfl (by simp only [List.length_singleton]; omega) ?_; intro v2 w2 hown2))
          all_goals
            go_wp2
            go_roundw
            case rel => exact ⟨l.length + 1, l ++ [fOf p q], by omega, by go_num, by simp, HN.out, by rw [HF.out]; exact hown2⟩
            case measure => simp [intOf]; omega
      · obtain ⟨xo, xc, rfl⟩ := htr.shape
        have HE : Hid (rd 0 ts = l) := by
          show rd 0 ts = l
          rw [← HR.out, HD.out, rd_stop h2, List.append_nil]
        have h2' : ((t.list.length : Int) != 2) = true := by simp; omega
        generalize t.kind = tk at *
        generalize t.num = tn at *
        generalize t.text = tx at *
        clear htr HD
        generalize t.list.length = tl at *
        go_wp2
        go_ret
        refine ⟨_, rfl, ?_, ?_⟩
        · rw [HE.out]
          exact hfin.adds (by repeat (first | with_reducible exact Adds.refl _ | with_reducible refine Adds.alloc ?_ _ | with_reducible refine Adds.more ?_ _ _ | with_reducible refine Adds.drew ?_ | with_reducible refine Adds.drewN ?_ _))
        · exact Adds.of (hb.trans (((Adds.refl wr).alloc _).below.mono hb.size))
    · have hk' : l.length = ts.length := by omega
      have HE : Hid (rd 0 ts = l) := by
        show rd 0 ts = l
        rw [← HR.out, hk', List.drop_length]
        simp [rd]
      have hlt' : ¬ (l.length : Int) < (ts.length : Int) := by omega
      have hfin := hown.lst
      clear hk'
      go_wp2
      go_ret
      refine ⟨_, rfl, ?_, Adds.of hown.2.1⟩
      rw [HE.out]
      exact hfin

end Go.Proofs.Ytcgbhbbljjdejaa
