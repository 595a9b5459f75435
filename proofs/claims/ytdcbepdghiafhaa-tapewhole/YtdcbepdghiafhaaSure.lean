/-
  Reels from which the power may go again and again: what is opened then.
-/
import Derived.Test.YtdcbepdghiafhaaPower
namespace Go.Proofs.Ytdcbepdghiafhaa
open Go.RowKit Go.Maps

/-- Files whose newest whole segment has the records rs; there is room to begin another. -/
structure OkK (K : Kf) (rs : List (List UInt8)) (i : Nat) : Prop where
  srt : SrtK K
  new : ∃ file base clean, newK K = some (file, base, rs, clean) ∧ (clean = false → sizeK K ≤ 8000 + 255 * i)
  size : sizeK K ≤ 15000
  keys : ∀ k ∈ keysK K, k < 100 + (i : Int)

/-- Whatever a crash keeps, the records are these or those. -/
def Sure (d : Dk) (was next : List (List UInt8)) (i : Nat) : Prop :=
  ∀ n, n ≤ d.pw.count → n ≤ 255 → ∃ K rs, (rs = was ∨ rs = next) ∧ filesK K = keepF d.f d.ds n ∧ OkK K rs i

theorem sizeK_append (a b : Kf) : sizeK (a ++ b) = sizeK a + sizeK b := by simp [sizeK]

theorem sizeK_filter (q : Int × List UInt8 → Bool) : ∀ K : Kf, sizeK (K.filter q) ≤ sizeK K
  | [] => Nat.le_refl _
  | p :: r => by
    have ih := sizeK_filter q r
    rw [List.filter_cons]
    unfold sizeK at *
    split
    · simp
      omega
    · simp
      omega

theorem keys_filter {q : Int × List UInt8 → Bool} {K : Kf} {k : Int} (h : k ∈ keysK (K.filter q)) : k ∈ keysK K := by
  obtain ⟨p, hp, rfl⟩ := List.mem_map.1 h
  exact List.mem_map.2 ⟨p, (List.mem_filter.1 hp).1, rfl⟩

theorem next_le {K : Kf} {B : Int} (hB : 0 ≤ B) (h : ∀ k ∈ keysK K, k < B) : nextK K ≤ B := by
  unfold nextK
  cases hk : (keysK K).getLast? with
  | none => exact hB
  | some k =>
    have := h k (List.mem_of_getLast? hk)
    simp only
    omega

theorem ne_nil_of {K : Kf} {x : Int × Nat × List (List UInt8) × Bool} (h : newK K = some x) : K ≠ [] := by
  rintro rfl
  cases h

/-- It is opened: the records are those; and again. -/
theorem sure_open {K : Kf} {rs was next : List (List UInt8)} {i : Nat} (h : OkK K rs i) (hi : i ≤ 8) (hrs : rs = was ∨ rs = next) (hf : fits rs) (hl : segLen rs ≤ 4000) (pw : Pw) (hg : pw.gone = false) (hc : pw.count = 0) (ha : pw.armed = true → 0 ≤ pw.left) :
    Sure ((⟨filesK K, [], pw⟩ : Dk).opened K).d was next (i + 1) ∧ ((⟨filesK K, [], pw⟩ : Dk).opened K).ls = rs ∧ roomy 20000 K := by
  obtain ⟨file, base, clean, hn, hcl⟩ := h.new
  have hln : rs.length ≤ 1000000 := by unfold segLen at hl; omega
  have hnx := next_le (K := K) (B := 100 + (i : Int)) (by omega) h.keys
  cases clean with
  | true =>
    have e : (⟨filesK K, [], pw⟩ : Dk).opened K = ⟨file, base, rs, (⟨filesK K, [], pw⟩ : Dk).others file (keysK K)⟩ := by
      unfold Dk.opened
      rw [hn]
    rw [e]
    refine ⟨fun n _ _ => ?_, rfl, by unfold roomy; rw [hn]; trivial⟩
    obtain ⟨K', k1, k2, k3, q, rfl⟩ := others_kept h.srt hn pw n
    refine ⟨_, rs, hrs, k2, k1, ⟨file, base, true, k3, by simp⟩, Nat.le_trans (sizeK_filter _ K) h.size, fun k hk => ?_⟩
    have := h.keys k (keys_filter hk)
    omega
  | false =>
    have hsz := hcl rfl
    have e : (⟨filesK K, [], pw⟩ : Dk).opened K = ⟨nextK K, rs.length, rs, (⟨filesK K, [], pw⟩ : Dk).begun K rs⟩ := by
      unfold Dk.opened
      rw [hn]
    rw [e]
    refine ⟨fun n hnc hn5 => ?_, rfl, by unfold roomy; rw [hn]; exact ⟨by omega, by omega⟩⟩
    obtain ⟨K', k1, k2, k3⟩ := begun_kept h.srt (ne_nil_of hn) pw hg hc ha hf hln n hnc
    refine ⟨K', rs, hrs, k2, ?_⟩
    rcases k3 with ⟨k3, k4⟩ | ⟨k3, q, rfl⟩
    · have hs : sizeK K' ≤ sizeK K + n := by
        rcases k4 with rfl | rfl
        · omega
        · rw [sizeK_append, sizeK_one, List.length_take]
          omega
      refine ⟨k1, ⟨file, base, false, k3.trans hn, fun _ => by omega⟩, by omega, fun k hk => ?_⟩
      rcases k4 with rfl | rfl
      · have := h.keys k hk
        omega
      · rw [keys_next] at hk
        rcases List.mem_append.1 hk with hk | hk
        · have := h.keys k hk
          omega
        · simp only [List.mem_singleton] at hk
          omega
    · refine ⟨k1, ⟨nextK K, rs.length, true, k3, by simp⟩, ?_, fun k hk => ?_⟩
      · refine Nat.le_trans (sizeK_filter _ _) ?_
        rw [sizeK_append, sizeK_one, seg_length]
        omega
      · have hk' := keys_filter hk
        rw [keys_next] at hk'
        rcases List.mem_append.1 hk' with hk' | hk'
        · have := h.keys k hk'
          omega
        · simp only [List.mem_singleton] at hk'
          omega

/-- A record is appended while the power goes. -/
theorem sure_append {n0 : Int} (h0 : n0 < 100) {base : Nat} {ls : List (List UInt8)} {m : List UInt8} (h : fits ls) (hm : m.length ≤ 16384) (hb : base ≤ ls.length) (hsz : segLen ls + (m.length + 9) ≤ 8000) (pw : Pw) (hg : pw.gone = false) (hc : pw.count = 0) (ha : pw.armed = true → 0 ≤ pw.left) :
    Sure (((⟨filesK [(n0, seg base ls)], [], pw⟩ : Dk).app n0 (record m)).sync) ls (ls ++ [m]) 0 := by
  intro n hn _
  have hl : ls.length < 1000000 := by unfold segLen at hsz; omega
  obtain ⟨b, h1, h2, h3⟩ := app_kept n0 h hm hb hl pw hg hc ha n hn
  have hk : ∀ k ∈ keysK [(n0, b)], k < 100 + ((0 : Nat) : Int) := by
    intro k hk
    simp [keysK] at hk
    omega
  rcases h2 with ⟨c, h2⟩ | h2
  · exact ⟨_, ls, .inl rfl, h1, srt_one _, ⟨n0, base, c, by rw [newK_one, h2]; rfl, fun _ => by rw [sizeK_one]; omega⟩, by rw [sizeK_one]; omega, hk⟩
  · exact ⟨_, ls ++ [m], .inr rfl, h1, srt_one _, ⟨n0, base, true, by rw [newK_one, h2]; rfl, fun _ => by rw [sizeK_one]; omega⟩, by rw [sizeK_one]; omega, hk⟩

/-- A list is begun while the power goes. -/
theorem sure_restart {n0 : Int} (h0 : 0 ≤ n0 ∧ n0 < 99) {base : Nat} {ls ms : List (List UInt8)} (h : fits ls) (hms : fits ms) (hb : base ≤ ls.length) (hsz : segLen ls + segLen ms ≤ 7000) (pw : Pw) (hg : pw.gone = false) (hc : pw.count = 0) (ha : pw.armed = true → 0 ≤ pw.left) :
    Sure ((⟨filesK [(n0, seg base ls)], [], pw⟩ : Dk).begun [(n0, seg base ls)] ms) ls ms 0 := by
  intro n hn h255
  have hl : ls.length ≤ 1000000 := by unfold segLen at hsz; omega
  have hml : ms.length ≤ 1000000 := by unfold segLen at hsz; omega
  obtain ⟨K', k1, k2, k3⟩ := begun_kept (srt_one (n0, seg base ls)) (by simp) pw hg hc ha hms hml n hn
  have hnx : nextK [(n0, seg base ls)] = n0 + 1 := rfl
  have hnw := newK_seg n0 h hb hl
  rcases k3 with ⟨k3, k4⟩ | ⟨k3, q, rfl⟩
  · refine ⟨K', ls, .inl rfl, k2, k1, ⟨n0, base, true, k3.trans hnw, by simp⟩, ?_, fun k hk => ?_⟩
    · rcases k4 with rfl | rfl
      · rw [sizeK_one, seg_length]
        omega
      · rw [sizeK_append, sizeK_one, sizeK_one, List.length_take, seg_length]
        omega
    · rcases k4 with rfl | rfl
      · simp [keysK] at hk
        omega
      · rw [hnx] at hk
        simp [keysK] at hk
        omega
  · refine ⟨_, ms, .inr rfl, k2, k1, ⟨_, ms.length, true, k3, by simp⟩, ?_, fun k hk => ?_⟩
    · refine Nat.le_trans (sizeK_filter _ _) ?_
      rw [sizeK_append, sizeK_one, sizeK_one, seg_length, seg_length]
      omega
    · have hk' := keys_filter hk
      rw [hnx] at hk'
      simp [keysK] at hk'
      omega

end Go.Proofs.Ytdcbepdghiafhaa
