/-
  The best way to give three things to bidders, the first of the best: what both sides' loops over all ways come to.
-/
import Derived.Test.YtpildecpabeanaaG15
import Derived.Test.YtpildecpabeanaaG09
import Derived.Deep.RegionWith
namespace Go.Proofs.Ytpildecpabeanaa

/-- The better of the best so far and one more. -/
def pick (f : List Int → Int) (o : Option (List Int)) (x : List Int) : Option (List Int) := match o with
  | none => some x
  | some b => if f b < f x then some x else some b
def bestA (f : List Int → Int) (L : List (List Int)) : Option (List Int) := L.foldl (pick f) none
theorem bestA_snoc (f : List Int → Int) (L : List (List Int)) (x : List Int) : bestA f (L ++ [x]) = pick f (bestA f L) x := by simp [bestA]
theorem bestA_first (f : List Int → Int) (x : List Int) : bestA f [x] = some x := rfl
theorem bestA_some {f : List Int → Int} : ∀ {n : Nat} {L : List (List Int)}, L.length = n → L ≠ [] → ∃ b, bestA f L = some b ∧ b ∈ L ∧ ∀ x ∈ L, f x ≤ f b := by
  intro n
  induction n with
  | zero => intro L h hne; exact absurd (List.eq_nil_of_length_eq_zero h) hne
  | succ n ih =>
    intro L h hne
    obtain ⟨i, x, rfl⟩ : ∃ i x, L = i ++ [x] := ⟨L.dropLast, L.getLast hne, (List.dropLast_concat_getLast hne).symm⟩
    rw [bestA_snoc]
    by_cases hi : i = []
    · subst hi; exact ⟨x, rfl, by simp, by simp⟩
    · obtain ⟨b, hb, hm, hle⟩ := ih (by simpa using h) hi
      rw [hb]
      show ∃ c, (if f b < f x then some x else some b) = some c ∧ _
      by_cases hlt : f b < f x
      · refine ⟨x, by rw [if_pos hlt], by simp, fun y hy => ?_⟩
        rcases List.mem_append.1 hy with hy | hy
        · have := hle y hy; omega
        · simp at hy; rw [hy]; omega
      · refine ⟨b, by rw [if_neg hlt], by simp [hm], fun y hy => ?_⟩
        rcases List.mem_append.1 hy with hy | hy
        · exact hle y hy
        · simp at hy; rw [hy]; omega

/-- What is done of all ways, and what comes next. -/
def DoneTo (n : Nat) (L : List (List Int)) : Option (List Int) → Prop
  | some ys => allF (n : Int) (List.replicate 3 0) = L ++ allF (n : Int) ys
  | none => allF (n : Int) (List.replicate 3 0) = L
theorem DoneTo.start (n : Nat) : DoneTo n [] (some (List.replicate 3 0)) := by show allF _ _ = _; simp
theorem DoneTo.step {n : Nat} {L : List (List Int)} {ys : List Int} (h : DoneTo n L (some ys)) (hf : Fit n 3 ys) : DoneTo n (L ++ [ys]) (nextF ys n) := by
  have h : allF (n : Int) (List.replicate 3 0) = _ := h
  cases hn : nextF ys n with
  | none => rw [allF_last hn] at h; exact h
  | some zs => rw [allF_next (by omega) hf.2 hn] at h; show allF _ _ = _; rw [h]; simp

theorem ways_all : ((List.range 5).all fun t => (List.range (t + 1)).all fun x => (List.range (t + 1)).all fun y => (List.range (t + 1)).all fun z => (allF (t : Int) [0, 0, 0]).elem [(x : Int), (y : Int), (z : Int)]) = true := by decide +kernel
theorem ways_come {n : Nat} {x y z : Int} (hn : n ≤ 4) (hx : 0 ≤ x ∧ x ≤ n) (hy : 0 ≤ y ∧ y ≤ n) (hz : 0 ≤ z ∧ z ≤ n) : [x, y, z] ∈ allF (n : Int) (List.replicate 3 0) := by
  have h := ways_all
  rw [List.all_eq_true] at h
  have h := h n (by simp; omega)
  rw [List.all_eq_true] at h
  have h := h x.toNat (by simp; omega)
  rw [List.all_eq_true] at h
  have h := h y.toNat (by simp; omega)
  rw [List.all_eq_true] at h
  have h := h z.toNat (by simp; omega)
  rw [show ((x.toNat : Nat) : Int) = x by omega, show ((y.toNat : Nat) : Int) = y by omega, show ((z.toNat : Nat) : Int) = z by omega] at h
  exact List.elem_iff.1 h

/-- The best way. -/
noncomputable def wayF (ts : List (List Int)) : List Int := (bestA (worthF ts) (allF (ts.length : Int) (List.replicate 3 0))).getD []
theorem allF_ne (n : Nat) : allF (n : Int) (List.replicate 3 0) ≠ [] := by unfold allF; rw [runF]; simp
theorem wayF_is (ts : List (List Int)) : bestA (worthF ts) (allF (ts.length : Int) (List.replicate 3 0)) = some (wayF ts) := by
  obtain ⟨b, hb, _⟩ := bestA_some (f := worthF ts) rfl (allF_ne ts.length)
  unfold wayF
  rw [hb]; rfl
/-- What the best way is worth is the best worth of all things. -/
theorem wayF_worth {ts : List (List Int)} (hz : ∀ t ∈ ts, T t 0 = 0) (hn : ts.length ≤ 4) : worthF ts (wayF ts) = sv ts 7 := by
  obtain ⟨b, hb, hm, hle⟩ := bestA_some (f := worthF ts) rfl (allF_ne ts.length)
  have hw := wayF_is ts
  rw [hb] at hw
  injection hw with hw
  rw [← hw]
  apply Int.le_antisymm
  · have h8 := ge_lt 0 (b.getD 0 0) (b.getD 1 0) (b.getD 2 0)
    have hm7 : ge 0 (b.getD 0 0) (b.getD 1 0) (b.getD 2 0) ∈ subs 7 := by
      have h7 : ∀ x, x < 8 → x ∈ subs 7 := by decide
      exact h7 _ h8
    exact got_le (got_more (by omega) hm7 (wk_got ts _ _ _ 0))
  · obtain ⟨x, y, z, hx, hy, hz', _, _, _, he⟩ := got_wk ts 7 0 _ (by omega) (got_sv hz 7)
    have hmem := ways_come (n := ts.length) hn (x := x) (y := y) (z := z) (by omega) (by omega) (by omega)
    have := hle _ hmem
    unfold worthF at this ⊢
    simp at this he ⊢
    omega
theorem wayF_mem (ts : List (List Int)) : wayF ts ∈ allF (ts.length : Int) (List.replicate 3 0) := by
  obtain ⟨b, hb, hm, _⟩ := bestA_some (f := worthF ts) rfl (allF_ne ts.length)
  have hw := wayF_is ts
  rw [hb] at hw
  injection hw with hw
  rw [← hw]; exact hm

end Go.Proofs.Ytpildecpabeanaa

/-
  Chapter 4: the contracts of setsBy and worthBy, and of the model's setsOf and sumSets.
-/
namespace Go.Proofs.Ytpildecpabeanaa
open Go.RowKit

/-- What a call hands back: the sets of n bidders in a block of its own. -/
def SetsIs (w : World) (os : List Int) (n : Nat) (e : Ending) (w' : World) : Prop :=
  ∃ g c, e = .returned (.slice (some ⟨g, 0, none⟩) n c) ∧ Own w' w.heap.size (some ⟨g, 0, none⟩) c (setsF os n) ∧ Below w.heap.size w w'

theorem sknTo_bd (os : List Int) (i : Int) {k : Nat} (h : k ≤ 3) : sknTo os i k < 8 := by
  have h1 := sknTo_lt os i k h
  have : 2 ^ k ≤ 2 ^ 3 := Nat.pow_le_pow_right (by decide) h
  omega

set_option maxHeartbeats 800000 in
theorem setsBy_any (A : Option Addr) (c n : Nat) (os : List Int) (w : World) (h : Rd w A c os) (hf : Fit n 3 os) (_hn1 : 1 ≤ n) (hn : n ≤ 4) :
    Calls Try.prog 88 #[.slice A 3 c, .int .i64 n] w (SetsIs w os n) := by
  have HF := Lib.hid hf.2
  have h3 := hf.1
  have HST := Lib.hid (fun (k i : Nat) (h : os[k]? = some (i : Int)) => setsTo_hit (n := n) h)
  have HSM := Lib.hid (fun (k : Nat) (v : Int) (h : os[k]? = some v) (hv : (n : Int) ≤ v ∨ v < 0) => setsTo_miss (n := n) h hv)
  have HBD := Lib.hid (fun (i : Int) (k : Nat) (hk : k ≤ 3) => sknTo_bd os i hk)
  clear hf
  go_enter Try.func88, Try.ntmps88
  go_wp2_with (at_make; refine wpList_make_ints rfl _ _ rfl w.heap.size n rfl rfl (by omega) (by simp) ?_; intro w2 ho hb)
  have HO : Hid (Own w2 w.heap.size (some ⟨w.heap.size, 0, none⟩) n (setsTo os n 0)) := Lib.hid (by rw [setsTo_zero]; exact ho)
  clear ho
  go_loopw [12] (fun i wr => ∃ k : Nat, k ≤ 3 ∧ i = .int .i64 (k : Int) ∧ Hid (Own wr w.heap.size (some ⟨w.heap.size, 0, none⟩) n (setsTo os n k)) ∧ Below w.heap.size w wr) (fun i _ => 3 - (intOf i).toNat)
  case atStart => exact ⟨0, by omega, rfl, HO, hb⟩
  case round =>
    obtain ⟨k, hk, rfl, HO, hb⟩ := hrel
    by_cases hlt : k < 3
    · obtain ⟨b, off, x, rfl, _, hx, hc⟩ := (h.below hb).at_ (k := k) (by omega)
      have hxb := HF.out x (List.mem_of_getElem? hx.out)
      by_cases hxn : x < (n : Int)
      · obtain ⟨i, rfl⟩ : ∃ i : Nat, x = (i : Int) := ⟨x.toNat, by omega⟩
        have hin : i < n := by omega
        have HS := Lib.hid (HST.out k i hx.out)
        have hcell := HO.out.cell (setsTo_at os k hin)
        have hfree := HO.out.free i
        have hvb := HBD.out (i : Int) k hk
        have HN := Lib.hid (HO.out.set_ i (((sknTo os (i : Int) k : Nat) : Int) + ((2 ^ k : Nat) : Int)))
        rw [← HS.out] at HN
        obtain ⟨v, hV⟩ : ∃ v, v = sknTo os (i : Int) k := ⟨_, rfl⟩
        rw [← hV] at hcell HN hvb
        have hi0 : (0 : Int) ≤ (i : Int) := by omega
        clear hV hx HS hxb
        have : k = 0 ∨ k = 1 ∨ k = 2 := by omega
        rcases this with rfl | rfl | rfl
        · rw [Nat.add_zero] at hc
          have e1 : IntKind.i64.wrap ((v : Int) + 1) = (v : Int) + 1 := IntWalk.i64_in _ (by omega)
          go_wp2_with fail
          go_region
          go_wp2
          go_roundw
          case rel => exact ⟨1, by omega, by go_num, HN, (hb.setCell (Nat.le_refl _) _).drew⟩
          case measure => simp [intOf]
        · have e1 : IntKind.i64.wrap ((v : Int) + 2) = (v : Int) + 2 := IntWalk.i64_in _ (by omega)
          go_wp2_with fail
          go_region
          go_wp2
          go_roundw
          case rel => exact ⟨2, by omega, by go_num, HN, (hb.setCell (Nat.le_refl _) _).drew⟩
          case measure => simp [intOf]
        · have e1 : IntKind.i64.wrap ((v : Int) + 4) = (v : Int) + 4 := IntWalk.i64_in _ (by omega)
          go_wp2_with fail
          go_region
          go_wp2
          go_roundw
          case rel => exact ⟨3, by omega, by go_num, HN, (hb.setCell (Nat.le_refl _) _).drew⟩
          case measure => simp [intOf]
      · have HS := Lib.hid (HSM.out k x hx.out (.inl (by omega)))
        have HN : Hid (Own wr w.heap.size (some ⟨w.heap.size, 0, none⟩) n (setsTo os n (k + 1))) := Lib.hid (by rw [HS.out]; exact HO.out)
        clear hx HS hxb
        go_wp2
        go_roundw
        case rel => exact ⟨k + 1, by omega, by go_num, HN, hb⟩
        case measure => simp [intOf]; omega
    · obtain rfl : k = 3 := by omega
      go_wp2
      go_ret
      exact ⟨_, _, rfl, by rw [← setsTo_three]; exact HO.out, hb⟩

/-- Numbers that tell sets below 8. -/
theorem worthF_step_bd {ts : List (List Int)} (h : ∀ t ∈ ts, VT t) (os : List Int) (k : Nat) : 0 ≤ worthF (ts.take k) os ∧ worthF (ts.take k) os ≤ 30 * ts.length := by
  have h1 := worthF_bd (ts := ts.take k) (fun t ht => h t (List.mem_of_mem_take ht)) os
  rw [List.length_take] at h1
  omega

set_option maxHeartbeats 800000 in
theorem worthBy_any (A B : Option Addr) (c d n : Nat) (ts : List (List Int)) (os : List Int) (w : World) (h : RdR w A c ts) (hv : ∀ t ∈ ts, VT t) (h2 : Rd w B d (setsF os n)) (hn : ts.length = n) (hn4 : n ≤ 4) :
    Calls Try.prog 89 #[.slice A n c, .slice B n d] w fun e w' => e = .returned (.int .i64 (worthF ts os)) ∧ ∃ m, w' = w.drewN m := by
  have HT := Lib.hid (fun (k : Nat) (t : List Int) (h : ts[k]? = some t) => worthF_step os h)
  have HB := Lib.hid (fun (k : Nat) => worthF_step_bd hv os k)
  have HV := Lib.hid hv
  have HAT := Lib.hid (fun (k : Nat) (hk : k < n) => setsF_at os hk)
  have HZ := Lib.hid (worthF_zero ts os)
  have HE : Hid (worthF (ts.take n) os = worthF ts os) := Lib.hid (by rw [← hn, List.take_length])
  clear hv
  go_enter Try.func89, Try.ntmps89
  go_wp2
  go_loopw [5, 10] (fun m i wr => ∃ (k j : Nat) (v : Int), k ≤ n ∧ i = .int .i64 (k : Int) ∧ m = .int .i64 v ∧ Hid (v = worthF (ts.take k) os) ∧ wr = w.drewN j) (fun _ i _ => n - (intOf i).toNat)
  case atStart => exact ⟨0, 0, 0, Nat.zero_le _, rfl, rfl, Lib.hid HZ.out.symm, rfl⟩
  case round =>
    obtain ⟨k, j, v, hk, rfl, rfl, HW, rfl⟩ := hrel
    by_cases hlt : k < n
    · obtain ⟨b, off, r, A', c', rfl, hr, hc, _, hrd⟩ := h.at_ (k := k) (by omega)
      have hvt := HV.out r (List.mem_of_getElem? hr.out)
      obtain ⟨b2, off2, x, rfl, _, hx, hcx⟩ := h2.at_ (k := k) (by rw [setsF_len]; exact hlt)
      have hxe : x = ((setOf os k : Nat) : Int) := by have := HAT.out k hlt; rw [hx.out] at this; injection this
      subst hxe
      have hs8 := setOf_lt os k
      obtain ⟨b3, off3, y, rfl, _, hy, hcy⟩ := hrd.out.at_ (k := setOf os k) (by rw [hvt.1]; exact hs8)
      rw [hvt.1] at hc
      have hST := HT.out k r hr.out
      have hyb := hvt.bd hs8
      have hTy := T_of hy.out
      rw [← HW.out, hTy] at hST
      rw [hTy] at hyb
      have hwb := HB.out k
      rw [← HW.out] at hwb
      have HST := Lib.hid hST.symm
      obtain ⟨s, hS⟩ : ∃ s, s = setOf os k := ⟨_, rfl⟩
      rw [← hS] at hcx hcy hs8
      have hs0 : (0 : Int) ≤ (s : Int) := by omega
      have hs8' : (s : Int) < 8 := by omega
      have e1 : IntKind.i64.wrap (v + y) = v + y := IntWalk.i64_in _ (by omega)
      clear hS hST hTy hy hvt hr hrd hyb hwb hx
      go_wp2
      go_roundw
      case rel => exact ⟨k + 1, _, _, by omega, by go_num, rfl, HST, rfl⟩
      case measure => simp [intOf]; omega
    · obtain rfl : k = n := by omega
      have HE' : Hid (v = worthF ts os) := Lib.hid (by rw [HW.out]; exact HE.out)
      go_wp2
      go_ret
      exact ⟨by rw [HE'.out]; rfl, _, rfl⟩

set_option maxHeartbeats 800000 in
theorem SsumSets_any (A B : Option Addr) (c d n : Nat) (ts : List (List Int)) (os : List Int) (w : World) (h : RdR w A c ts) (hv : ∀ t ∈ ts, VT t) (h2 : Rd w B d (setsF os n)) (hn : ts.length = n) (hn4 : n ≤ 4) :
    Calls Try.prog 125 #[.slice A n c, .slice B n d] w fun e w' => e = .returned (.int .i64 (worthF ts os)) ∧ ∃ m, w' = w.drewN m := by
  have HT := Lib.hid (fun (k : Nat) (t : List Int) (h : ts[k]? = some t) => worthF_step os h)
  have HB := Lib.hid (fun (k : Nat) => worthF_step_bd hv os k)
  have HV := Lib.hid hv
  have HAT := Lib.hid (fun (k : Nat) (hk : k < n) => setsF_at os hk)
  have HZ := Lib.hid (worthF_zero ts os)
  have HE : Hid (worthF (ts.take n) os = worthF ts os) := Lib.hid (by rw [← hn, List.take_length])
  clear hv
  go_enter Try.func125, Try.ntmps125
  go_wp2
  go_loopw [5, 6] (fun m i wr => ∃ (k j : Nat) (v : Int), k ≤ n ∧ i = .int .i64 (k : Int) ∧ m = .int .i64 v ∧ Hid (v = worthF (ts.take k) os) ∧ wr = w.drewN j) (fun _ i _ => n - (intOf i).toNat)
  case atStart => exact ⟨0, 0, 0, Nat.zero_le _, rfl, rfl, Lib.hid HZ.out.symm, rfl⟩
  case round =>
    obtain ⟨k, j, v, hk, rfl, rfl, HW, rfl⟩ := hrel
    by_cases hlt : k < n
    · obtain ⟨b, off, r, A', c', rfl, hr, hc, _, hrd⟩ := h.at_ (k := k) (by omega)
      have hvt := HV.out r (List.mem_of_getElem? hr.out)
      obtain ⟨b2, off2, x, rfl, _, hx, hcx⟩ := h2.at_ (k := k) (by rw [setsF_len]; exact hlt)
      have hxe : x = ((setOf os k : Nat) : Int) := by have := HAT.out k hlt; rw [hx.out] at this; injection this
      subst hxe
      have hs8 := setOf_lt os k
      obtain ⟨b3, off3, y, rfl, _, hy, hcy⟩ := hrd.out.at_ (k := setOf os k) (by rw [hvt.1]; exact hs8)
      rw [hvt.1] at hc
      have hST := HT.out k r hr.out
      have hyb := hvt.bd hs8
      have hTy := T_of hy.out
      rw [← HW.out, hTy] at hST
      rw [hTy] at hyb
      have hwb := HB.out k
      rw [← HW.out] at hwb
      have HST := Lib.hid hST.symm
      obtain ⟨s, hS⟩ : ∃ s, s = setOf os k := ⟨_, rfl⟩
      rw [← hS] at hcx hcy hs8
      have hs0 : (0 : Int) ≤ (s : Int) := by omega
      have hs8' : (s : Int) < 8 := by omega
      have hk0 : (0 : Int) ≤ (k : Int) := by omega
      have hkn : (k : Int) < (n : Int) := by omega
      have e1 : IntKind.i64.wrap (v + y) = v + y := IntWalk.i64_in _ (by omega)
      clear hS hST hTy hy hvt hr hrd hyb hwb hx
      go_wp2_with fail
      go_quiet (fail)
      go_wp2
      go_roundw
      case rel => exact ⟨k + 1, _, _, by omega, by go_num, rfl, HST, rfl⟩
      case measure => simp [intOf]; omega
    · obtain rfl : k = n := by omega
      have HE' : Hid (v = worthF ts os) := Lib.hid (by rw [HW.out]; exact HE.out)
      go_wp2
      go_ret
      exact ⟨by rw [HE'.out]; rfl, _, rfl⟩

set_option maxHeartbeats 800000 in
theorem SsetsOf_any (A : Option Addr) (c n : Nat) (os : List Int) (w : World) (h : Rd w A c os) (hf : Fit n 3 os) (_hn1 : 1 ≤ n) (hn : n ≤ 4) :
    Calls Try.prog 138 #[.slice A 3 c, .int .i64 n] w (SetsIs w os n) := by
  have HF := Lib.hid hf.2
  have h3 := hf.1
  have HST := Lib.hid (fun (k i : Nat) (h : os[k]? = some (i : Int)) => setsTo_hit (n := n) h)
  have HSM := Lib.hid (fun (k : Nat) (v : Int) (h : os[k]? = some v) (hv : (n : Int) ≤ v ∨ v < 0) => setsTo_miss (n := n) h hv)
  have HBD := Lib.hid (fun (i : Int) (k : Nat) (hk : k ≤ 3) => sknTo_bd os i hk)
  clear hf
  go_enter Try.func138, Try.ntmps138
  go_wp2_with (at_make; refine wpList_make_ints rfl _ _ rfl w.heap.size n rfl rfl (by omega) (by simp) ?_; intro w2 ho hb)
  have HO : Hid (Own w2 w.heap.size (some ⟨w.heap.size, 0, none⟩) n (setsTo os n 0)) := Lib.hid (by rw [setsTo_zero]; exact ho)
  clear ho
  go_loopw [6] (fun i wr => ∃ k : Nat, k ≤ 3 ∧ i = .int .i64 (k : Int) ∧ Hid (Own wr w.heap.size (some ⟨w.heap.size, 0, none⟩) n (setsTo os n k)) ∧ Below w.heap.size w wr) (fun i _ => 3 - (intOf i).toNat)
  case atStart => exact ⟨0, by omega, rfl, HO, hb⟩
  case round =>
    obtain ⟨k, hk, rfl, HO, hb⟩ := hrel
    by_cases hlt : k < 3
    · obtain ⟨b, off, x, rfl, hbw, hx, hc⟩ := (h.below hb).at_ (k := k) (by omega)
      have hbw0 : b < w.heap.size := by
        obtain ⟨b', off', x', hA, hb', _, _⟩ := h.at_ (k := k) (by omega)
        cases hA; exact hb'
      have hxb := HF.out x (List.mem_of_getElem? hx.out)
      by_cases hxn : x < (n : Int)
      · obtain ⟨i, rfl⟩ : ∃ i : Nat, x = (i : Int) := ⟨x.toNat, by omega⟩
        have hin : i < n := by omega
        have HS := Lib.hid (HST.out k i hx.out)
        have HP := Lib.hid (fun (w1 : World) => Spower_any k (by omega) w1)
        have hcell := HO.out.cell (setsTo_at os k hin)
        have hfree := HO.out.free i
        have hvb := HBD.out (i : Int) k hk
        have HN := Lib.hid (HO.out.drewN 1 |>.set_ i (((sknTo os (i : Int) k : Nat) : Int) + ((2 ^ k : Nat) : Int)))
        rw [← HS.out] at HN
        obtain ⟨v, hV⟩ : ∃ v, v = sknTo os (i : Int) k := ⟨_, rfl⟩
        rw [← hV] at hcell HN hvb
        have hp8 : 2 ^ k < 8 := by
          have : k = 0 ∨ k = 1 ∨ k = 2 := by omega
          rcases this with rfl | rfl | rfl <;> decide
        obtain ⟨p, hp⟩ : ∃ p, p = 2 ^ k := ⟨_, rfl⟩
        rw [← hp] at HP HN hp8
        have hi0 : (0 : Int) ≤ (i : Int) := by omega
        have hk0 : (0 : Int) ≤ (k : Int) := by omega
        have hk3 : (k : Int) < 3 := by omega
        have e1 : IntKind.i64.wrap ((v : Int) + (p : Int)) = (v : Int) + (p : Int) := IntWalk.i64_in _ (by omega)
        clear hV hp hx HS hxb
        go_wp2_with fail
        go_region_with (go_at_call 113; refine (HP.out _).mono ?_; rintro e w1 ⟨rfl, rfl⟩)
        all_goals
          go_wp2
          go_roundw
          case rel => exact ⟨k + 1, by omega, by go_num, HN, (hb.setCell (Nat.le_refl _) _).drew⟩
          case measure => simp [intOf]; omega
      · have HS := Lib.hid (HSM.out k x hx.out (.inl (by omega)))
        have HN : Hid (Own wr w.heap.size (some ⟨w.heap.size, 0, none⟩) n (setsTo os n (k + 1))) := Lib.hid (by rw [HS.out]; exact HO.out)
        clear hx HS hxb
        go_wp2
        go_roundw
        case rel => exact ⟨k + 1, by omega, by go_num, HN, hb⟩
        case measure => simp [intOf]; omega
    · obtain rfl : k = 3 := by omega
      go_wp2
      go_ret
      exact ⟨_, _, rfl, by rw [← setsTo_three]; exact HO.out, hb⟩

end Go.Proofs.Ytpildecpabeanaa

/-
  Chapter 1: the contracts of next, nextBids, honest, calm and allRest.
-/
namespace Go.Proofs.Ytpildecpabeanaa
open Go.RowKit

/-- What of the first j is still to be turned, noughts behind. -/
def tailed (xs : List Int) (j : Nat) : List Int := xs.take j ++ List.replicate (xs.length - j) 0
theorem tailed_len (xs : List Int) (j : Nat) (hj : j ≤ xs.length) : (tailed xs j).length = xs.length := by simp [tailed]; omega
theorem tailed_all (xs : List Int) : tailed xs xs.length = xs := by simp [tailed]

theorem tailed_at {xs : List Int} {j : Nat} {x : Int} (hx : xs[j]? = some x) : (tailed xs (j + 1))[j]? = some x := by
  have hj := (List.getElem?_eq_some_iff.1 hx).1
  unfold tailed
  rw [List.getElem?_append_left (by simp; omega), List.getElem?_take_of_lt (by omega), hx]
theorem tailed_zero {xs : List Int} {j : Nat} (hj : j < xs.length) : (tailed xs (j + 1)).set j 0 = tailed xs j := by
  apply List.ext_getElem?
  intro k
  unfold tailed
  simp only [List.getElem?_set, List.getElem?_append, List.length_append, List.length_take, List.length_replicate, List.getElem?_take, List.getElem?_replicate]
  rcases Nat.lt_trichotomy k j with h | h | h
  · simp [show ¬ j = k by omega, show k < min (j + 1) xs.length by omega, show k < min j xs.length by omega, h, show k < j + 1 by omega]
  · subst h
    simp [show k < min (k + 1) xs.length + (xs.length - (k + 1)) by omega, show min k xs.length = k by omega, show 0 < xs.length - k by omega]
  · simp [show ¬ j = k by omega, show ¬ k < min (j + 1) xs.length by omega, show ¬ k < min j xs.length by omega]
    have e1 : k - min (j + 1) xs.length < xs.length - (j + 1) ↔ k - min j xs.length < xs.length - j := by omega
    by_cases hh : k - min (j + 1) xs.length < xs.length - (j + 1)
    · rw [if_pos hh, if_pos (e1.1 hh)]
    · rw [if_neg hh, if_neg (fun x => hh (e1.2 x))]

/-- Where the next bids come from when the last ones are at the top. -/
def NextIs (xs : List Int) (top : Int) (j : Nat) : Prop := nextF xs top = (nextF (xs.take j) top).map (· ++ List.replicate (xs.length - j) 0)
theorem NextIs.start (xs : List Int) (top : Int) : NextIs xs top xs.length := by unfold NextIs; simp
theorem NextIs.up {xs : List Int} {top x : Int} {j : Nat} (h : NextIs xs top (j + 1)) (hx : xs[j]? = some x) (hlt : x < top) : nextF xs top = some ((tailed xs (j + 1)).set j (x + 1)) := by
  have hj := (List.getElem?_eq_some_iff.1 hx).1
  have ht : xs.take (j + 1) = xs.take j ++ [x] := by rw [List.take_add_one, hx]; rfl
  rw [h, ht, nextF_snoc, if_pos hlt]
  simp only [Option.map_some]
  congr 1
  unfold tailed
  rw [ht, List.set_append, if_pos (by simp; omega), List.set_append, if_neg (by simp; omega)]
  simp [show min j xs.length = j by omega]
theorem NextIs.down {xs : List Int} {top x : Int} {j : Nat} (h : NextIs xs top (j + 1)) (hx : xs[j]? = some x) (hge : ¬ x < top) : NextIs xs top j := by
  have hj := (List.getElem?_eq_some_iff.1 hx).1
  have ht : xs.take (j + 1) = xs.take j ++ [x] := by rw [List.take_add_one, hx]; rfl
  unfold NextIs at h ⊢
  rw [h, ht, nextF_snoc, if_neg hge]
  rw [Option.map_map]
  congr 1
  funext l
  simp only [Function.comp, List.append_assoc]
  rw [show xs.length - j = 1 + (xs.length - (j + 1)) by omega, ← List.replicate_append_replicate]
  rfl
theorem NextIs.none_ {xs : List Int} {top : Int} (h : NextIs xs top 0) : nextF xs top = none := by rw [h]; simp [nextF_nil]

/-- What next hands back. -/
def NextOut (w : World) (o : Option (List Int)) (e : Ending) (w' : World) : Prop :=
  (∃ zs g c, o = some zs ∧ e = .returned (.slice (some ⟨g, 0, none⟩) zs.length c) ∧ Own w' w.heap.size (some ⟨g, 0, none⟩) c zs ∧ Below w.heap.size w w') ∨
  (o = none ∧ e = .returned (.slice none 0 0) ∧ Below w.heap.size w w')

set_option maxHeartbeats 800000 in
theorem next_any (A : Option Addr) (c : Nat) (xs : List Int) (top : Int) (w : World) (h : Rd w A c xs) (hl : xs.length ≤ 1048576) (ht0 : 0 ≤ top) (ht1 : top ≤ 1048576) (hb : ∀ x ∈ xs, 0 ≤ x ∧ x ≤ top) :
    Calls Try.prog 137 #[.slice A xs.length c, .int .i64 top] w (NextOut w (nextF xs top)) := by
  have hl2 : xs.length ≤ 1099511627776 := by omega
  have hb0 := (Below.refl w.heap.size w).alloc (Nat.le_refl _) (.cells #[] 3)
  have h1 := h.below hb0
  have HB := Lib.hid hb
  clear hb h
  go_enter Try.func137, Try.ntmps137
  go_wp2_with (at_builtin; refine wpList_clone rfl _ _ rfl w.heap.size w.heap.size rfl (own_empty w) A c xs rfl h1 hl2 hb0.size ?_; intro g c1 w1 ho hb1)
  have B1 := hb0.trans hb1
  clear hb0 hb1 h1
  go_loopw [6] (fun i wr => ∃ j : Nat, j ≤ xs.length ∧ i = .int .i64 ((j : Int) - 1) ∧ Own wr w.heap.size (some ⟨g, 0, none⟩) c1 (tailed xs j) ∧ Below w.heap.size w wr ∧ Hid (NextIs xs top j))
    (fun i _ => (intOf i + 1).toNat)
  case atStart => exact ⟨xs.length, Nat.le_refl _, rfl, by rw [tailed_all]; exact ho, B1, Lib.hid (NextIs.start xs top)⟩
  case round =>
    obtain ⟨j, hj, rfl, hor, hbr, HN⟩ := hrel
    cases j with
    | zero =>
      have HE := Lib.hid HN.out.none_
      go_wp2
      go_ret
      exact .inr ⟨HE.out, rfl, hbr⟩
    | succ j =>
      have hjl : j < xs.length := by omega
      have e1 : (((j + 1 : Nat) : Int) - 1) = (j : Int) := by omega
      rw [e1]
      obtain ⟨x, hx⟩ := at_some hjl
      have hxb := HB.out x (List.mem_of_getElem? hx)
      have hx0 := hxb.1
      have hx1 := hxb.2
      have hc := hor.cell (tailed_at hx)
      have hf := hor.free j
      by_cases hlt : x < top
      · have HE := Lib.hid (HN.out.up hx hlt)
        have HS := Lib.hid (hor.set_ j (x + 1))
        have HL : Hid (((tailed xs (j + 1)).set j (x + 1)).length = xs.length) := Lib.hid (by rw [List.length_set, tailed_len xs (j + 1) hj])
        have HB2 := Lib.hid (hbr.setCell hor.ge (p := ⟨g, j, none⟩) (.int .i64 (x + 1)))
        clear hx hxb hor e1
        go_wp2
        go_ret
        exact .inl ⟨_, g, c1, HE.out, by rw [HL.out]; rfl, HS.out, HB2.out⟩
      · have HE := Lib.hid (HN.out.down hx hlt)
        have HS : Hid (Own (wr.setCell ⟨g, j, none⟩ (.int .i64 0)) w.heap.size (some ⟨g, 0, none⟩) c1 (tailed xs j)) := Lib.hid (by
          have := hor.set_ j 0
          rwa [tailed_zero hjl] at this)
        have HB2 := Lib.hid (hbr.setCell hor.ge (p := ⟨g, j, none⟩) (.int .i64 0))
        clear hx hxb hor e1
        go_wp2
        go_roundw
        case rel => exact ⟨j, by omega, rfl, HS.out, HB2.out, HE⟩
        case measure => simp [intOf]

end Go.Proofs.Ytpildecpabeanaa
