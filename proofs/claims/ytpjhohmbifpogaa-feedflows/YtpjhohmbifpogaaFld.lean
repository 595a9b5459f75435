/-
  The law of a subscription, walked to its second loop.
-/
import Derived.Test.YtpjhohmbifpogaaMflc
import Derived.Deep.CutBlock
import Derived.Deep.RegionHeld3
namespace Go.Proofs.Ytpjhohmbifpogaa
open Go.RowKit
attribute [local go_sem] cell?_more frozen?_more setCell_more size_more tape_more drew_more drewN_more more_drew more_drewN one_out plus_out plus_end lt_one le_p2 le_p3 le_p4 le_p5 le_p6 le_p7 le_p8 le_p9 le_p10 le_p11 le_p12 le_p13 le_p14 le_p15 le_p16 le_p17 le_p18 le_p19 le_p20 le_p21 le_p22 le_p23 le_p24 le_q0 le_q1 lt_q1 le_q2 lt_q2 le_q3 lt_q3 le_q4 lt_q4 le_q5 lt_q5 le_q6 lt_q6 le_q7 lt_q7 le_q8 lt_q8 le_q9 lt_q9 le_q10 lt_q10 le_q11 lt_q11 le_q12 lt_q12 le_q13 lt_q13 le_q14 lt_q14 le_q15 lt_q15 le_q16 lt_q16 le_q17 lt_q17 le_q18 lt_q18 le_q19 lt_q19 le_q20 lt_q20 le_q21 lt_q21 le_q22 lt_q22 le_q23 lt_q23 le_q24 lt_q24

set_option maxHeartbeats 16000000 in
set_option maxRecDepth 20000 in
theorem feedFlows_walk (p : Int) (hp0 : 0 ≤ p) (hp1 : p < 256) (ko uo : Option Addr) (kc uc : Nat) (ks : List ByteArray) (us : List Int) (w : World) (hk : LstK w (.slice ko ks.length kc) ks) (hu : LstU w (.slice uo us.length uc) us) :
    Calls Try.prog 6 #[.int .u8 p, .slice ko ks.length kc, .slice uo us.length uc] w fun e w' => e = .returned (.bool true) ∧ Adds w w' := by
  have kA := fun w' => awake_any w'
  have HK : Hid _ := hk
  have HU : Hid _ := hu
  clear hu
  obtain ⟨_, _, e0, hkc, hkl⟩ := hk
  obtain ⟨rfl, rfl⟩ : ko = _ ∧ kc = _ := by simpa using e0
  clear e0
  go_enter Try.func6, Try.ntmps6
  go_upto_block 0 with fail
  go_cut [9, 10] from 11 to 62 (fun all kk wc => ∃ (k : Nat) (vo : Option Addr) (vc : Nat) (rs : List Rh) (os : Array Obj) (d : Nat), k ≤ ks.length ∧ k ≤ 7 ∧ all = .slice vo k vc ∧ kk = .int .i64 k ∧
      Hid (RowG (w.heap.size + 1) w (.slice vo k vc) rs wc ∧ Run (rs.map (·.1)) ∧ rs.length = k ∧ w.heap.size + 1 ≤ wc.heap.size ∧ ∃ g, vo = some ⟨g, 0, none⟩) ∧
      wc = more (w.alloc (.cells #[.int .i64 0, .int .i64 0, .slice none 0 0, .slice none 0 0] 25)) os d)
  case rest =>
    obtain ⟨k, vo, vc, rs, os, d, hk1, hk7, rfl, rfl, H, rfl⟩ := hcut
    clear hkl hkc
    have kD := fun x W hx => addZ x (rs.map (·.1)) k W hx H.out.2.1 (by simpa using H.out.2.2.1) (by omega)
    have kO := fun v W hv => openZ v (rs.map (·.1)) k (k / 2) ((k : Int) / 2) (by omega) W hv H.out.2.1 (by simpa using H.out.2.2.1) (by omega) (by omega)
    unfold TellsV at kD kO
    unfold ss at kO
    have HL := H.out.2.2.1
    clear HL
    go_wp2_with (first
      | (go_at_call 11; refine (kD _ _ (RowG.lstH H.out.1 (by repeat (first | with_reducible exact Adds.refl _ | with_reducible refine Adds.alloc ?_ _ | with_reducible refine Adds.more ?_ _ _ | with_reducible refine Adds.drew ?_ | with_reducible refine Adds.drewN ?_ _)))).mono ?_; rintro e w3 ⟨⟨v3, x3, y3, z3, rfl, H3⟩, os3, d3, rfl⟩; clear kD)
      | (go_at_call 18; refine (kO _ _ (LstF.turned H3.out (by repeat (first | with_reducible exact Turned.box _ _ _ _ _ _ _ _ _ _ | with_reducible refine Turned.mores ?_ (by simp [go_sem]) _ _ _ | with_reducible refine Turned.allocs ?_ (by simp [go_sem]) _ | with_reducible refine Turned.more ?_ _ _ | with_reducible refine Turned.alloc ?_ _)))).mono ?_; rintro e w4 ⟨⟨v4, x4, y4, z4, rfl, H4⟩, os4, d4, rfl⟩; clear kO))
    have HS : Hid _ := H.out.2.1
    have HF0 : Hid (Flow w (more (more (more (w.alloc (.cells #[.int .i64 0, .int .i64 k, .slice v4 k x4, .slice y4 1 z4] 25)) os d) os3 d3) os4 d4) 0 (k / 2) k v4 x4 y4 z4 vo vc rs) := by
      refine ⟨(Adds.below (by repeat (first | with_reducible exact Adds.refl _ | with_reducible refine Adds.alloc ?_ _ | with_reducible refine Adds.more ?_ _ _ | with_reducible refine Adds.drew ?_ | with_reducible refine Adds.drewN ?_ _))), by simp [go_sem], ?_, LstF.turned H4.out (by repeat (first | with_reducible exact Turned.box _ _ _ _ _ _ _ _ _ _ | with_reducible refine Turned.mores ?_ (by simp [go_sem]) _ _ _ | with_reducible refine Turned.allocs ?_ (by simp [go_sem]) _ | with_reducible refine Turned.more ?_ _ _ | with_reducible refine Turned.alloc ?_ _)), RowG.far H.out.1 (by repeat (first | with_reducible exact Far.refl _ _ | with_reducible refine Far.mores ?_ (by simp [go_sem]) _ _ _ | with_reducible refine Far.allocs ?_ (by simp [go_sem]) _ | with_reducible refine Far.low ?_ (by simp [go_sem]) (by first | omega | (simp [go_sem] <;> omega)) _ _ | with_reducible refine Far.more ?_ _ _ | with_reducible refine Far.alloc ?_ _)), H.out.2.1, H.out.2.2.1, Nat.zero_le _, by omega, H.out.2.2.2.2⟩
      rw [more_block _ _ (by simp [go_sem]), more_block _ _ (by simp [go_sem]), more_block _ _ (by simp [go_sem]), new_block2]
      rfl
    have hk2 : (k : Int) / 2 = ((k / 2 : Nat) : Int) := by omega
    clear H H3 H4
    generalize k / 2 = a0 at *
    go_loopw [8, 9, 10, 13, 14] (fun e all kk at_ i wr => ∃ (b a n k j : Nat) (fo : Option Addr) (fc : Nat) (so : Option Addr) (sc : Nat) (vo : Option Addr) (vc : Nat) (rs : List Rh), j ≤ us.length ∧ j ≤ 60 ∧ n ≤ 7 + j ∧ k ≤ 7 + j ∧
        e = .int .i64 0 ∧ all = .slice vo n vc ∧ kk = .int .i64 k ∧ at_ = .int .i64 a ∧ i = .int .i64 j ∧ Hid (Flow w wr b a n fo fc so sc vo vc rs)) (fun _ _ _ _ i _ => us.length - (intOf i).toNat)
    case atStart =>
      exact ⟨0, a0, k, k, 0, v4, x4, y4, z4, vo, vc, rs, Nat.zero_le _, by omega, by omega, by omega, rfl, rfl, rfl, by first | rfl | (rw [hk2]), rfl, HF0⟩
    case round =>
      obtain ⟨b, a, n, k, j, fo, fc, so, sc, vo, vc, rs, hj, hj60, hn, hkk, rfl, rfl, rfl, rfl, rfl, H⟩ := hrel
      rename World => X
      clear HF0 HS hk2 hk1 hk7
      have hlt := H.out.size
      obtain ⟨⟨x0, x1, x2, x3⟩, f0, f1, f2, f3⟩ := H.out.cells
      have hbb : Hid (Below w.heap.size w X) := H.out.below
      obtain ⟨_, _, e1, huc, hul⟩ := HU.out
      obtain ⟨rfl, rfl⟩ : uo = _ ∧ uc = _ := by simpa using e1
      clear e1
      by_cases hju : j < us.length
      · rcases hul with rfl | ⟨ub, uf, rfl, hub, hus⟩
        · simp at hju
        obtain ⟨xu, hu0, hu1⟩ := hus j hju
        replace xu := (hbb.out.cell (by exact hub)).trans xu
        have hub' : ub < X.heap.size := Nat.lt_trans hub H.out.size
        have hju' : (j : Int) < (us.length : Int) := by omega
        clear hus hub huc
        generalize us[j] = u at *
        have hwu : IntKind.i64.wrap u = u := by rw [IntKind.wrap_i64]; omega
        by_cases hj6 : j < 60
        · have hj6' : (j : Int) < 60 := by omega
          have h4 : u % 4 = 0 ∨ u % 4 = 1 ∨ u % 4 = 2 ∨ u % 4 = 3 := by omega
          rcases h4 with h4 | h4 | h4 | h4
          · obtain ⟨_, _, e2, hkc, hkl⟩ := HK.out
            obtain ⟨rfl, rfl⟩ : ko = _ ∧ kc = _ := by simpa using e2
            clear e2
            by_cases hks : k < ks.length
            · rcases hkl with rfl | ⟨kb, kf, rfl, hkb, hkl⟩
              · simp at hks
              have xk := (hbb.out.cell (by exact hkb)).trans (hkl k hks)
              have hkb' : kb < X.heap.size := Nat.lt_trans hkb H.out.size
              have hks' : (k : Int) < (ks.length : Int) := by omega
              clear hkl hkb hkc
              generalize ks[k] = key at *
              by_cases h1 : 1 ≤ key.size
              · by_cases h64 : key.size ≤ 64
                · have HG : Hid (isKey key = true) := by
                    show _ = _
                    simp [isKey, h1, h64]
                  have hr' : Run (rs.map (·.1) ++ [⟨(n : Int) + 1, key, true, []⟩]) := H.out.run.add key true HG.out _ (by rw [List.length_map, H.out.len])
                  have HR : Hid (Run (rs.map (·.1) ++ [⟨(n : Int) + 1, key, true, []⟩])) := hr'
                  have kD := fun v x W (hv : LstF W v (fdOf (rs.map (·.1)) b a)) hx => addN v x (rs.map (·.1)) ⟨(n : Int) + 1, key, true, []⟩ b a b ((n : Int) + 1) (n - b + 1) W hv hx H.out.run hr' H.out.hb (by rw [List.length_map, H.out.len]; exact H.out.ha) (by rw [List.length_map, H.out.len]; omega) rfl (by rw [List.length_map, H.out.len]) (by rw [List.length_map, H.out.len])
                  unfold TellsW at kD
                  clear hr'
                  go_wp2_with (first
                    | (go_at_call 11; refine (kD _ _ _ (LstF.adds H.out.feed (by repeat (first | with_reducible exact Adds.refl _ | with_reducible refine Adds.alloc ?_ _ | with_reducible refine Adds.more ?_ _ _ | with_reducible refine Adds.drew ?_ | with_reducible refine Adds.drewN ?_ _))) (lstH_one _ 57 _ _ _ _ (by simp [go_sem]))).mono ?_; rintro e w3 ⟨⟨va, ca, ua, da, rfl, H3⟩, os3, n3, rfl⟩; clear kD)
                    | (at_builtin; refine rowZ_one rfl (.tmp 195) (.tmp 197) rfl (RowG.far H.out.row (Put.far (((((Put.sets H.out.box _ _ _ _).alloc _).alloc _).more _ _).alloc _))) H.out.len rfl (lstH_one _ 57 _ _ _ _ (by simp [go_sem])) rfl rfl (by simp [go_sem] <;> omega) (by omega) ?_; rintro vb cb Z qb H5))
                  go_roundw
                  case rel =>
                    refine ⟨b, a, n + 1, k + 1, j + 1, va, ca, ua, da, vb, cb, rs ++ [qb], by omega, by omega, by omega, by omega, rfl, rfl, by go_num, rfl, by go_num, Flow.add H.out (((((Put.sets H.out.box _ _ _ _).alloc _).alloc _).more _ _).alloc _) ?_ ?_ ?_ H5.out.1 H5.out.2.1 H5.out.2.2.1 HR.out⟩
                    · exact LstF.turned H3.out.1 (by repeat (first | with_reducible exact Turned.sets H.out.box _ _ _ _ | with_reducible refine Turned.mores ?_ (by simp [go_sem, World.setCell]) _ _ _ | with_reducible refine Turned.allocs ?_ (by simp [go_sem, World.setCell]) _ | with_reducible refine Turned.more ?_ _ _ | with_reducible refine Turned.alloc ?_ _))
                    · exact H3.out.2.1.mono (by simp [go_sem] <;> omega)
                    · exact H3.out.2.2.mono (by simp [go_sem] <;> omega)
                  case measure => simp [intOf]; omega
                · go_wp2
                  go_roundw
                  case rel => exact ⟨b, a, n, k, j + 1, fo, fc, so, sc, vo, vc, rs, by omega, by omega, by omega, by omega, rfl, rfl, rfl, rfl, by go_num, H⟩
                  case measure => simp [intOf]; omega
              · go_wp2
                go_roundw
                case rel => exact ⟨b, a, n, k, j + 1, fo, fc, so, sc, vo, vc, rs, by omega, by omega, by omega, by omega, rfl, rfl, rfl, rfl, by go_num, H⟩
                case measure => simp [intOf]; omega
            · have hks' : ¬ (k : Int) < (ks.length : Int) := by omega
              clear hkl
              go_wp2
              go_roundw
              case rel => exact ⟨b, a, n, k, j + 1, fo, fc, so, sc, vo, vc, rs, by omega, by omega, by omega, by omega, rfl, rfl, rfl, rfl, by go_num, H⟩
              case measure => simp [intOf]; omega
          · obtain ⟨b', hb', eT⟩ := trimF_of H.out.hb u (cs := rs.map (·.1))
            have kT := fun v W (hv : LstF W v (fdOf (rs.map (·.1)) b a)) => trimN v (rs.map (·.1)) b a u W hv H.out.run H.out.hb (by rw [List.length_map, H.out.len]; exact H.out.ha) (by rw [List.length_map, H.out.len]; omega) b' b' n (n - b') rfl (by rw [List.length_map, H.out.len]) (by rw [List.length_map, H.out.len]) eT
            unfold TellsW at kT
            have HT : Hid (b' ≤ a) := hb'
            clear eT hb'
            go_wp2
            go_region_with (go_at_call 21; refine (kT _ _ (LstF.adds H.out.feed (by repeat (first | with_reducible exact Adds.refl _ | with_reducible refine Adds.alloc ?_ _ | with_reducible refine Adds.more ?_ _ _ | with_reducible refine Adds.drew ?_ | with_reducible refine Adds.drewN ?_ _)))).mono ?_; rintro e w3 ⟨⟨v3, c3, u3, d3, rfl, H3⟩, os3, n3, rfl⟩; clear kT)
            all_goals
              go_wp2
              go_roundw
              case rel => exact ⟨b', a, n, k, j + 1, v3, c3, u3, d3, vo, vc, rs, by omega, by omega, by omega, by omega, rfl, rfl, rfl, rfl, by go_num, Flow.put H.out ((Put.sets H.out.box _ _ _ _).more _ _) (LstF.turned H3.out.1 ((Turned.sets H.out.box _ _ _ _).mores (by simp [World.setCell]) _ _ _)) HT.out H.out.ha⟩
              case measure => simp [intOf]; omega
          · obtain ⟨m, hm, hm1, hm2⟩ := most_read u hu0 hu1
            obtain ⟨g, rfl⟩ := H.out.spot
            obtain ⟨L, hL⟩ : ∃ L, L = (((rs.map (·.1)).drop a).take m).length := ⟨_, rfl⟩
            have hLn : a + L ≤ n := by
              have h1 := H.out.len
              have h2 := H.out.ha
              rw [hL, List.length_take, List.length_drop, List.length_map]
              omega
            have kR := fun v W (hv : LstF W v (fdOf (rs.map (·.1)) b a)) => readN v (rs.map (·.1)) b a m m a L W hv H.out.run H.out.hb (by rw [List.length_map, H.out.len]; exact H.out.ha) (by rw [List.length_map, H.out.len]; omega) hm1 hm2 rfl rfl hL
            have HL : Hid (L = (((rs.map (·.1)).drop a).take m).length) := hL
            clear hm1 hm2 hL
            unfold ss at kR
            go_wp2
            go_region_held3 (fun w' => w'.cell? ⟨w.heap.size, 0, none⟩ = some (.int .i64 b) ∧ w'.cell? ⟨w.heap.size, 1, none⟩ = some (.int .i64 n) ∧ w'.cell? ⟨w.heap.size, 2, none⟩ = some (.slice fo (n - b) fc) ∧ w'.cell? ⟨w.heap.size, 3, none⟩ = some (.slice so 1 sc) ∧ w'.cell? ⟨ub, uf + j, none⟩ = some (.int .u8 u)) (simp [go_sem, *]) (first
              | (go_at_call 26; refine (kR _ _ (LstF.adds H.out.feed (by repeat (first | with_reducible exact Adds.refl _ | with_reducible refine Adds.alloc ?_ _ | with_reducible refine Adds.more ?_ _ _ | with_reducible refine Adds.drew ?_ | with_reducible refine Adds.drewN ?_ _)))).mono ?_; rintro e w3 ⟨⟨va, ca, rfl, H3⟩, os3, n3, rfl⟩; clear kR))
            replace H3 : Hid (LstH (more X os3 n3) (.slice va L ca) (((rs.map (·.1)).drop a).take m)) := H3.out
            have hvc : n ≤ vc := by
              rcases H.out.row.1.2 with ⟨e, _⟩ | ⟨g', cp, cur, e, _, _, h, _⟩
              · cases e
              · cases e
                rw [H.out.len] at h
                exact h
            have q0 : IntKind.i64.wrap ((a : Int) + L) = (a : Int) + L := by rw [IntKind.wrap_i64]; omega
            have q1 : (a : Int) + L ≤ (n : Int) := by omega
            have q2 : (a : Int) + L ≤ (vc : Int) := by omega
            have KS : Hid (∀ W q c, Adds X W → (q = a * 4 ∧ L ≤ c) ∨ L = 0 → LstH W (.slice (some ⟨g, q, none⟩) L c) (((rs.map (·.1)).drop a).take m)) := fun W q c hA hq => H.out.part m L HL.out W q c hA hq
            have KD : Hid ((((rs.map (·.1)).drop a).take m).length ≤ 1000 ∧ ∀ d ∈ (((rs.map (·.1)).drop a).take m), d.doc.length ≤ 1000) := by
              refine ⟨?_, fun d hd => H.out.run.doc a d (List.mem_of_mem_take hd)⟩
              rw [← HL.out]
              omega
            have kN : ∀ (q c : Nat), Hid ((q = a * 4 ∧ L ≤ c) ∨ L = 0) → ∀ W v, LstH W v (((rs.map (·.1)).drop a).take m) → Adds X W → Calls Try.prog 30 #[v, .slice (some ⟨g, q, none⟩) L c] W fun e w' => e = .returned (.bool true) ∧ Adds W w' :=
              fun q c hq W v hv hA => news_any v _ _ W hv (KS.out W q c hA hq.out) KD.out.1 KD.out.2
            have HLe : Hid (∀ x : Nat, x - a = 0 → n ≤ x → L = 0) := fun x h1 h2 => by omega
            have HLl : Hid (∀ x : Nat, n ≤ x → L ≤ x - a) := fun x h1 => by omega
            clear KS KD HL
            by_cases hca : vc = a
            · have hL0 : L = 0 := by omega
              subst hL0
              subst hca
              have kM := kN 0 0 (.inr rfl)
              clear kN HLe HLl
              have kK := fun v W (hv : LstF W v (fdOf (rs.map (·.1)) b vc)) => ackN v (rs.map (·.1)) b vc vc vc b n (n - b) W hv H.out.run H.out.hb (Nat.le_refl _) (by rw [List.length_map, H.out.len]; exact H.out.ha) (by rw [List.length_map, H.out.len]; omega) rfl rfl (by rw [List.length_map, H.out.len]) (by rw [List.length_map, H.out.len])
              unfold TellsW ss at kK
              go_wp2_with (first
                | (go_at_call 30; refine (kM _ _ (LstH.adds H3.out (by repeat (first | with_reducible exact Adds.refl _ | with_reducible refine Adds.alloc ?_ _ | with_reducible refine Adds.more ?_ _ _ | with_reducible refine Adds.drew ?_ | with_reducible refine Adds.drewN ?_ _))) (by repeat (first | with_reducible exact Adds.refl _ | with_reducible refine Adds.alloc ?_ _ | with_reducible refine Adds.more ?_ _ _ | with_reducible refine Adds.drew ?_ | with_reducible refine Adds.drewN ?_ _))).mono ?_; rintro e w4 ⟨rfl, os4, n4, rfl⟩; clear kM)
                | (go_at_call 19; refine (kK _ _ (LstF.adds H.out.feed (by repeat (first | with_reducible exact Adds.refl _ | with_reducible refine Adds.alloc ?_ _ | with_reducible refine Adds.more ?_ _ _ | with_reducible refine Adds.drew ?_ | with_reducible refine Adds.drewN ?_ _)))).mono ?_; rintro e w5 ⟨⟨vb, cb, ub5, db, rfl, H5⟩, os5, n5, rfl⟩; clear kK))
              go_roundw
              case rel => exact ⟨b, vc, n, k, j + 1, vb, cb, ub5, db, _, _, rs, by omega, by omega, by omega, by omega, rfl, rfl, rfl, rfl, by go_num, Flow.put H.out ((((Put.sets H.out.box _ _ _ _).more _ _).more _ _).more _ _) (LstF.turned H5.out.1 (by repeat (first | with_reducible exact Turned.sets H.out.box _ _ _ _ | with_reducible refine Turned.mores ?_ (by simp [go_sem, World.setCell]) _ _ _ | with_reducible refine Turned.allocs ?_ (by simp [go_sem, World.setCell]) _ | with_reducible refine Turned.more ?_ _ _ | with_reducible refine Turned.alloc ?_ _))) H.out.hb H.out.ha⟩
              case measure => simp [intOf]; omega
            · have kM := kN (a * 4) (vc - a) (.inl ⟨rfl, HLl.out _ hvc⟩)
              have hca2 : ¬ vc - a = 0 := by omega
              have hca3 : ¬ a = vc := fun e => hca e.symm
              clear kN HLe HLl
              have kK := fun v W (hv : LstF W v (fdOf (rs.map (·.1)) b a)) => ackN v (rs.map (·.1)) b a (a + L) ((a : Int) + L) b n (n - b) W hv H.out.run H.out.hb (by omega) (by rw [List.length_map, H.out.len]; exact hLn) (by rw [List.length_map, H.out.len]; omega) (by omega) rfl (by rw [List.length_map, H.out.len]) (by rw [List.length_map, H.out.len])
              have hbL : b ≤ a + L := Nat.le_trans H.out.hb (Nat.le_add_right _ _)
              have HbL : Hid _ := hbL
              have HLn : Hid (a + L ≤ n) := hLn
              unfold TellsW ss at kK
              clear hbL
              go_wp2_with (first
                | (go_at_call 30; refine (kM _ _ (LstH.adds H3.out (by repeat (first | with_reducible exact Adds.refl _ | with_reducible refine Adds.alloc ?_ _ | with_reducible refine Adds.more ?_ _ _ | with_reducible refine Adds.drew ?_ | with_reducible refine Adds.drewN ?_ _))) (by repeat (first | with_reducible exact Adds.refl _ | with_reducible refine Adds.alloc ?_ _ | with_reducible refine Adds.more ?_ _ _ | with_reducible refine Adds.drew ?_ | with_reducible refine Adds.drewN ?_ _))).mono ?_; rintro e w4 ⟨rfl, os4, n4, rfl⟩; clear kM)
                | (go_at_call 19; refine (kK _ _ (LstF.adds H.out.feed (by repeat (first | with_reducible exact Adds.refl _ | with_reducible refine Adds.alloc ?_ _ | with_reducible refine Adds.more ?_ _ _ | with_reducible refine Adds.drew ?_ | with_reducible refine Adds.drewN ?_ _)))).mono ?_; rintro e w5 ⟨⟨vb, cb, ub5, db, rfl, H5⟩, os5, n5, rfl⟩; clear kK))
              go_roundw
              case rel => exact ⟨b, a + L, n, k, j + 1, vb, cb, ub5, db, _, _, rs, by omega, by omega, by omega, by omega, rfl, rfl, rfl, by go_num, by go_num, Flow.put H.out ((((Put.sets H.out.box _ _ _ _).more _ _).more _ _).more _ _) (LstF.turned H5.out.1 (by repeat (first | with_reducible exact Turned.sets H.out.box _ _ _ _ | with_reducible refine Turned.mores ?_ (by simp [go_sem, World.setCell]) _ _ _ | with_reducible refine Turned.allocs ?_ (by simp [go_sem, World.setCell]) _ | with_reducible refine Turned.more ?_ _ _ | with_reducible refine Turned.alloc ?_ _))) HbL.out HLn.out⟩
              case measure => simp [intOf]; omega
          · obtain ⟨m, hm, hm1, hm2⟩ := most_read u hu0 hu1
            obtain ⟨g, rfl⟩ := H.out.spot
            obtain ⟨L, hL⟩ : ∃ L, L = (((rs.map (·.1)).drop a).take m).length := ⟨_, rfl⟩
            have hLn : a + L ≤ n := by
              have h1 := H.out.len
              have h2 := H.out.ha
              rw [hL, List.length_take, List.length_drop, List.length_map]
              omega
            have kR := fun v W (hv : LstF W v (fdOf (rs.map (·.1)) b a)) => readN v (rs.map (·.1)) b a m m a L W hv H.out.run H.out.hb (by rw [List.length_map, H.out.len]; exact H.out.ha) (by rw [List.length_map, H.out.len]; omega) hm1 hm2 rfl rfl hL
            have HL : Hid (L = (((rs.map (·.1)).drop a).take m).length) := hL
            clear hm1 hm2 hL
            unfold ss at kR
            go_wp2
            go_region_held3 (fun w' => w'.cell? ⟨w.heap.size, 0, none⟩ = some (.int .i64 b) ∧ w'.cell? ⟨w.heap.size, 1, none⟩ = some (.int .i64 n) ∧ w'.cell? ⟨w.heap.size, 2, none⟩ = some (.slice fo (n - b) fc) ∧ w'.cell? ⟨w.heap.size, 3, none⟩ = some (.slice so 1 sc) ∧ w'.cell? ⟨ub, uf + j, none⟩ = some (.int .u8 u)) (simp [go_sem, *]) (first
              | (go_at_call 26; refine (kR _ _ (LstF.adds H.out.feed (by repeat (first | with_reducible exact Adds.refl _ | with_reducible refine Adds.alloc ?_ _ | with_reducible refine Adds.more ?_ _ _ | with_reducible refine Adds.drew ?_ | with_reducible refine Adds.drewN ?_ _)))).mono ?_; rintro e w3 ⟨⟨va, ca, rfl, H3⟩, os3, n3, rfl⟩; clear kR))
            replace H3 : Hid (LstH (more X os3 n3) (.slice va L ca) (((rs.map (·.1)).drop a).take m)) := H3.out
            have hvc : n ≤ vc := by
              rcases H.out.row.1.2 with ⟨e, _⟩ | ⟨g', cp, cur, e, _, _, h, _⟩
              · cases e
              · cases e
                rw [H.out.len] at h
                exact h
            have q0 : IntKind.i64.wrap ((a : Int) + L) = (a : Int) + L := by rw [IntKind.wrap_i64]; omega
            have q1 : (a : Int) + L ≤ (n : Int) := by omega
            have q2 : (a : Int) + L ≤ (vc : Int) := by omega
            have KS : Hid (∀ W q c, Adds X W → (q = a * 4 ∧ L ≤ c) ∨ L = 0 → LstH W (.slice (some ⟨g, q, none⟩) L c) (((rs.map (·.1)).drop a).take m)) := fun W q c hA hq => H.out.part m L HL.out W q c hA hq
            have KD : Hid ((((rs.map (·.1)).drop a).take m).length ≤ 1000 ∧ ∀ d ∈ (((rs.map (·.1)).drop a).take m), d.doc.length ≤ 1000) := by
              refine ⟨?_, fun d hd => H.out.run.doc a d (List.mem_of_mem_take hd)⟩
              rw [← HL.out]
              omega
            have kN : ∀ (q c : Nat), Hid ((q = a * 4 ∧ L ≤ c) ∨ L = 0) → ∀ W v, LstH W v (((rs.map (·.1)).drop a).take m) → Adds X W → Calls Try.prog 30 #[v, .slice (some ⟨g, q, none⟩) L c] W fun e w' => e = .returned (.bool true) ∧ Adds W w' :=
              fun q c hq W v hv hA => news_any v _ _ W hv (KS.out W q c hA hq.out) KD.out.1 KD.out.2
            have HLe : Hid (∀ x : Nat, x - a = 0 → n ≤ x → L = 0) := fun x h1 h2 => by omega
            have HLl : Hid (∀ x : Nat, n ≤ x → L ≤ x - a) := fun x h1 => by omega
            clear KS KD HL
            by_cases hca : vc = a
            · have hL0 : L = 0 := by omega
              subst hL0
              subst hca
              have kM := kN 0 0 (.inr rfl)
              clear kN HLe HLl
              go_wp2_with (go_at_call 30; refine (kM _ _ (LstH.adds H3.out (by repeat (first | with_reducible exact Adds.refl _ | with_reducible refine Adds.alloc ?_ _ | with_reducible refine Adds.more ?_ _ _ | with_reducible refine Adds.drew ?_ | with_reducible refine Adds.drewN ?_ _))) (by repeat (first | with_reducible exact Adds.refl _ | with_reducible refine Adds.alloc ?_ _ | with_reducible refine Adds.more ?_ _ _ | with_reducible refine Adds.drew ?_ | with_reducible refine Adds.drewN ?_ _))).mono ?_; rintro e w4 ⟨rfl, os4, n4, rfl⟩; clear kM)
              go_roundw
              case rel => exact ⟨b, _, n, k, j + 1, fo, fc, so, sc, _, _, rs, by omega, by omega, by omega, by omega, rfl, rfl, rfl, rfl, by go_num, H.out.adds (by repeat (first | with_reducible exact Adds.refl _ | with_reducible refine Adds.alloc ?_ _ | with_reducible refine Adds.more ?_ _ _ | with_reducible refine Adds.drew ?_ | with_reducible refine Adds.drewN ?_ _))⟩
              case measure => simp [intOf]; omega
            · have kM := kN (a * 4) (vc - a) (.inl ⟨rfl, HLl.out _ hvc⟩)
              have hca2 : ¬ vc - a = 0 := by omega
              have hca3 : ¬ a = vc := fun e => hca e.symm
              clear kN HLe HLl
              go_wp2_with (go_at_call 30; refine (kM _ _ (LstH.adds H3.out (by repeat (first | with_reducible exact Adds.refl _ | with_reducible refine Adds.alloc ?_ _ | with_reducible refine Adds.more ?_ _ _ | with_reducible refine Adds.drew ?_ | with_reducible refine Adds.drewN ?_ _))) (by repeat (first | with_reducible exact Adds.refl _ | with_reducible refine Adds.alloc ?_ _ | with_reducible refine Adds.more ?_ _ _ | with_reducible refine Adds.drew ?_ | with_reducible refine Adds.drewN ?_ _))).mono ?_; rintro e w4 ⟨rfl, os4, n4, rfl⟩; clear kM)
              go_roundw
              case rel => exact ⟨b, _, n, k, j + 1, fo, fc, so, sc, _, _, rs, by omega, by omega, by omega, by omega, rfl, rfl, rfl, rfl, by go_num, H.out.adds (by repeat (first | with_reducible exact Adds.refl _ | with_reducible refine Adds.alloc ?_ _ | with_reducible refine Adds.more ?_ _ _ | with_reducible refine Adds.drew ?_ | with_reducible refine Adds.drewN ?_ _))⟩
              case measure => simp [intOf]; omega
        · have hj6' : ¬ (j : Int) < 60 := by omega
          go_wp2_with (go_at_call 10; refine (kA _).mono ?_; rintro e w2 ⟨rfl, os2, n2, rfl⟩)
          go_ret
          exact ⟨rfl, Adds.trans (Adds.of hbb.out) (by repeat (first | with_reducible exact Adds.refl _ | with_reducible refine Adds.alloc ?_ _ | with_reducible refine Adds.more ?_ _ _ | with_reducible refine Adds.drew ?_ | with_reducible refine Adds.drewN ?_ _))⟩
      · have hju' : ¬ (j : Int) < (us.length : Int) := by omega
        clear hul
        go_wp2_with (go_at_call 10; refine (kA _).mono ?_; rintro e w2 ⟨rfl, os2, n2, rfl⟩)
        go_ret
        exact ⟨rfl, Adds.trans (Adds.of hbb.out) (by repeat (first | with_reducible exact Adds.refl _ | with_reducible refine Adds.alloc ?_ _ | with_reducible refine Adds.more ?_ _ _ | with_reducible refine Adds.drew ?_ | with_reducible refine Adds.drewN ?_ _))⟩
  go_wp2
  go_loopw [9, 10, 11] (fun all kk i wr => ∃ (k : Nat) (vo : Option Addr) (vc : Nat) (rs : List Rh) (os : Array Obj) (d : Nat), k ≤ ks.length ∧ k ≤ 7 ∧ all = .slice vo k vc ∧ kk = .int .i64 k ∧ i = .int .i64 k ∧
      Hid (RowG (w.heap.size + 1) w (.slice vo k vc) rs wr ∧ Run (rs.map (·.1)) ∧ rs.length = k ∧ w.heap.size + 1 ≤ wr.heap.size ∧ ∃ g, vo = some ⟨g, 0, none⟩) ∧
      wr = more (w.alloc (.cells #[.int .i64 0, .int .i64 0, .slice none 0 0, .slice none 0 0] 25)) os d) (fun _ _ i _ => ks.length - (intOf i).toNat)
  case atStart =>
    refine ⟨0, some ⟨w.heap.size + 1, 0, none⟩, 0, [], #[.cells #[] 57], _, Nat.zero_le _, by omega, rfl, rfl, rfl, ⟨?_, Run.nil, rfl, ?_, _, rfl⟩, alloc_more _ _⟩
    · exact RowG.emptyAt w _ _ (by simp [go_sem])
    · simp [go_sem]
  case round =>
    obtain ⟨k, vo, vc, rs, os, d, hk1, hk7, rfl, rfl, rfl, H, rfl⟩ := hrel
    by_cases hlt : k < ks.length
    · rcases hkl with rfl | ⟨b, off, rfl, hb, hl⟩
      · simp at hlt
      have lc := hl k hlt
      have hlt' : (k : Int) < (ks.length : Int) := by omega
      by_cases hm : (k : Int) < p % 8
      · have hng : ¬ (p % 8 ≤ (k : Int)) := by omega
        by_cases h1 : 1 ≤ ks[k].size
        · by_cases h64 : ks[k].size ≤ 64
          · have HG : Hid (isKey ks[k] = true) := by
              show _ = _
              simp [isKey, h1, h64]
            clear hl
            generalize ks[k] = key at *
            go_wp2_with (at_builtin; refine rowG_apps (Y := w.alloc (.cells #[.int .i64 0, .int .i64 0, .slice none 0 0, .slice none 0 0] 25)) rfl (.tmp 49) (.tmp 58) rfl (RowG.re (RowG.far H.out.1 (by repeat (first | with_reducible exact Far.refl _ _ | with_reducible refine Far.mores ?_ (by simp [go_sem]) _ _ _ | with_reducible refine Far.allocs ?_ (by simp [go_sem]) _ | with_reducible refine Far.low ?_ (by simp [go_sem]) (by first | omega | (simp [go_sem] <;> omega)) _ _ | with_reducible refine Far.more ?_ _ _ | with_reducible refine Far.alloc ?_ _))) (Run.bare H.out.2.1 rfl)) H.out.2.2.1 rfl (lstH_one _ 57 _ _ _ _ (by simp [go_sem])) rfl (Adds.refl _) (by repeat (first | with_reducible exact Adds.refl _ | with_reducible refine Adds.alloc ?_ _ | with_reducible refine Adds.more ?_ _ _ | with_reducible refine Adds.drew ?_ | with_reducible refine Adds.drewN ?_ _)) (by simp [go_sem]) (by simp [go_sem]) (by simp; omega) ?_; rintro v2 c2 os2 d2 q2 H2)
            go_roundw
            case rel =>
              have hq := H2.out
              have hr : Run ((rs ++ q2).map (·.1)) := by
                rw [List.map_append, hq.1]
                exact Run.add H.out.2.1 key false HG.out _ (by simp [H.out.2.2.1])
              exact ⟨k + 1, v2, c2, rs ++ q2, os2, d2, by omega, by omega, rfl, by go_num, by go_num, ⟨RowG.re hq.2.1 (Run.bare hr rfl), hr, by simp [H.out.2.2.1, rows_length hq.1], hq.2.2, hq.2.1.spot (Nat.succ_pos _)⟩, rfl⟩
            case measure => simp [intOf]; omega
          · clear hl
            generalize ks[k] = key at *
            go_wp2_with (go_at_call 10; refine (kA _).mono ?_; rintro e w2 ⟨rfl, os2, n2, rfl⟩)
            go_ret
            exact ⟨rfl, (by repeat (first | with_reducible exact Adds.refl _ | with_reducible refine Adds.alloc ?_ _ | with_reducible refine Adds.more ?_ _ _ | with_reducible refine Adds.drew ?_ | with_reducible refine Adds.drewN ?_ _))⟩
        · clear hl
          generalize ks[k] = key at *
          go_wp2_with (go_at_call 10; refine (kA _).mono ?_; rintro e w2 ⟨rfl, os2, n2, rfl⟩)
          go_ret
          exact ⟨rfl, (by repeat (first | with_reducible exact Adds.refl _ | with_reducible refine Adds.alloc ?_ _ | with_reducible refine Adds.more ?_ _ _ | with_reducible refine Adds.drew ?_ | with_reducible refine Adds.drewN ?_ _))⟩
      · clear hl lc
        go_wp2
        go_meet
        exact ⟨k, vo, vc, rs, os, d, hk1, hk7, rfl, rfl, H, rfl⟩
    · obtain rfl : k = ks.length := by omega
      clear hkl
      go_wp2
      go_meet
      exact ⟨_, vo, vc, rs, os, d, hk1, hk7, rfl, rfl, H, rfl⟩

end Go.Proofs.Ytpjhohmbifpogaa
