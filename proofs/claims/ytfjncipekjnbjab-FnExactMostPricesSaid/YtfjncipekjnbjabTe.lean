/-
  Chapter 4, the model: texts: the contract of sumFrom.
-/
import Derived.Test.YtfjncipekjnbjabTd
import Derived.Test.YtfjncipekjnbjabWm
namespace Go.Proofs.Ytfjncipekjnbjab
open Go.RowKit Go.Lib

def setsO (os : Offers) : List Int := os.map (fun o => ((o.1 : Nat) : Int))
def pricesO (os : Offers) : List Int := os.map (fun o => ((o.2 : Nat) : Int))
theorem sumF_bd : ∀ {os : Offers}, Fine os → ∀ x, sumF os x ≤ 30 * os.length
  | [], _, x => by simp [sumF]
  | o :: os, h, x => by
    have h1 := sumF_bd (os := os) (fun p hp => h p (by simp [hp])) x
    have h2 := sumF_bd (os := os) (fun p hp => h p (by simp [hp])) (x - o.1)
    have h3 := (h o (by simp)).2.2
    simp only [sumF, List.length_cons]
    split <;> omega
theorem calls_q4 {P : Program} {f : FuncId} {args : Array Value} {w : World} {m : Nat} {v : Value} (h : Calls P f args (w.drewN m) fun e w' => e = .returned v ∧ ∃ k, w' = (w.drewN m).drewN k) :
    Calls P f args (w.drewN m) fun e w'' => e = .returned v ∧ ∃ k, w'' = w.drewN k := h.mono fun _ _ ⟨he, k, hw⟩ => ⟨he, m + k, by rw [hw]; simp⟩

theorem Rd.cutAny {w : World} {b off c k c2 : Nat} {zs : List Int} (h : Rd w (some ⟨b, off, none⟩) c zs) (hl : zs.length ≤ c) : Rd w (if c = k then some ⟨b, off, none⟩ else some ⟨b, off + k, none⟩) c2 (zs.drop k) := by
  split
  · rw [List.drop_eq_nil_of_le (by omega)]
    exact .inl ⟨rfl, fun h => by cases h⟩
  · exact h.drop_ k

set_option maxHeartbeats 1600000 in
theorem SsumFrom_any : ∀ (n : Nat) (os : Offers) (A B : Option Addr) (c d x : Nat) (w : World), os.length = n → Fine os → n ≤ 7 → x < 8 → Rd w A c (setsO os) → Rd w B d (pricesO os) → n ≤ c → n ≤ d →
    Calls Try.prog 172 #[.slice A n c, .slice B n d, .int .i64 (x : Int)] w fun e w' => e = .returned (.int .i64 (sumF os x)) ∧ ∃ m, w' = w.drewN m := by
  intro n
  induction n using Nat.strongRecOn with
  | _ n ih =>
    intro os A B c d x w hn hf hn7 hx hA hB hc hd
    have HIH := Lib.hid ih
    clear ih
    have HF := Lib.hid hf
    have HN := Lib.hid hn
    have HA := Lib.hid hA
    have HB := Lib.hid hB
    clear hn hf hA hB
    go_enter Try.func172, Try.ntmps172
    go_wp2
    go_loopw [7, 8] (fun o i wr => ∃ (k m : Nat) (v : Int), o = .int .i64 v ∧ i = .int .i64 (k : Int) ∧ k ≤ n ∧ 0 ≤ v ∧ Hid (sumF os x = max v (sumF (os.drop k) x)) ∧ wr = w.drewN m) (fun _ i _ => n - (intOf i).toNat)
    case atStart => exact ⟨0, 0, 0, rfl, rfl, by omega, by omega, Lib.hid (by have := sumF_nonneg os x; simp; omega), rfl⟩
    case round =>
      obtain ⟨k, m, v, rfl, rfl, hk, hv, HS, rfl⟩ := hrel
      by_cases hlt : k < n
      · have hkl : k < os.length := by have := HN.out; omega
        obtain ⟨o, ho⟩ : ∃ o, os[k]? = some o := ⟨os[k], List.getElem?_eq_getElem hkl⟩
        obtain ⟨ho1, ho8, ho30⟩ := HF.out o (List.mem_of_getElem? ho)
        obtain ⟨b, off, y, rfl, _, hy, hcy⟩ := HA.out.at_ (k := k) (by simp [setsO]; exact hkl)
        obtain ⟨b2, off2, z, rfl, _, hz, hcz⟩ := HB.out.at_ (k := k) (by simp [pricesO]; exact hkl)
        obtain rfl : y = ((o.1 : Nat) : Int) := by have := hy.out; simp [setsO, ho] at this; exact this.symm
        obtain rfl : z = ((o.2 : Nat) : Int) := by have := hz.out; simp [pricesO, ho] at this; exact this.symm
        have HD : Hid (sumF (os.drop k) x = max (sumF (os.drop (k + 1)) x) (if x &&& o.1 = o.1 then (o.2 : Int) + sumF (os.drop (k + 1)) (x - o.1) else 0)) := Lib.hid (by
          rw [List.drop_eq_getElem_cons hkl]
          have e : os[k] = o := by rw [List.getElem?_eq_getElem hkl] at ho; exact Option.some.inj ho
          rw [e]; rfl)
        have ha := and_nat ho8 hx
        rw [Nat.and_comm] at ha
        by_cases hin : x &&& o.1 = o.1
        · rw [hin] at ha
          have hnn := andNot_sub hx ho8 (by rw [Nat.and_comm]; exact hin)
          have hk0 : (0 : Int) ≤ (k : Int) := by omega
          obtain ⟨p, hp⟩ : ∃ p, p = sumF (os.drop (k + 1)) (x - o.1) := ⟨_, rfl⟩
          have HC : Hid (∀ j, Calls Try.prog 172 #[.slice (if c = k + 1 then some ⟨b, off, none⟩ else some ⟨b, off + (k + 1), none⟩) (n - (k + 1)) (c - (k + 1)), .slice (if d = k + 1 then some ⟨b2, off2, none⟩ else some ⟨b2, off2 + (k + 1), none⟩) (n - (k + 1)) (d - (k + 1)), .int .i64 ((x - o.1 : Nat) : Int)] (w.drewN (m + 1 + j)) fun e w' => e = .returned (.int .i64 p) ∧ ∃ i, w' = w.drewN (m + 1 + i)) :=
            Lib.hid (fun j => calls_q2 (by
              rw [hp]
              refine HIH.out (n - (k + 1)) (by omega) (os.drop (k + 1)) _ _ _ _ _ _ (by rw [List.length_drop, HN.out]) (fun q hq => HF.out q (List.mem_of_mem_drop hq)) (by omega) (by omega) ?_ ?_ (by omega) (by omega)
              · unfold setsO; rw [List.map_drop]; exact HA.out.cutAny (by simp [setsO, HN.out]; omega)
              · unfold pricesO; rw [List.map_drop]; exact HB.out.cutAny (by simp [pricesO, HN.out]; omega)))
          have hpb : 0 ≤ p ∧ p ≤ 210 := by
            rw [hp]
            have h1 := sumF_nonneg (os.drop (k + 1)) (x - o.1)
            have h2 := sumF_bd (os := os.drop (k + 1)) (fun q hq => HF.out q (List.mem_of_mem_drop hq)) (x - o.1)
            rw [List.length_drop, HN.out] at h2
            omega
          have HS2 : Hid (sumF os x = max (if v < (o.2 : Int) + p then (o.2 : Int) + p else v) (sumF (os.drop (k + 1)) x)) := Lib.hid (by
            rw [HS.out, HD.out, if_pos hin, ← hp]
            have := sumF_nonneg (os.drop (k + 1)) x
            split <;> omega)
          have e1 : IntKind.i64.wrap ((o.2 : Int) + p) = (o.2 : Int) + p := IntWalk.i64_in _ (by omega)
          clear hp hin HD HS ho
          go_wp2_with fail
          go_region
          go_wp2_with fail
          go_quiet ((go_at_call 172; exact HC.out _))
          go_wp2
          go_roundw
          case rel => exact ⟨k + 1, _, _, rfl, by go_num, by omega, by split <;> omega, HS2, rfl⟩
          case measure => simp [intOf]; omega
        · have HS2 : Hid (sumF os x = max v (sumF (os.drop (k + 1)) x)) := Lib.hid (by
            rw [HS.out, HD.out, if_neg hin]
            have := sumF_nonneg (os.drop (k + 1)) x
            omega)
          have hne : (((x &&& o.1 : Nat) : Int) == ((o.1 : Nat) : Int)) = false := by
            rw [beq_eq_false_iff_ne]; omega
          clear hin HD HS
          go_wp2_with fail
          go_region
          go_wp2
          go_roundw
          case rel => exact ⟨k + 1, _, v, rfl, by go_num, by omega, hv, HS2, rfl⟩
          case measure => simp [intOf]; omega
      · obtain rfl : k = n := by omega
        have HE : Hid (sumF os x = v) := Lib.hid (by
          rw [HS.out, List.drop_eq_nil_of_le (by rw [HN.out]; exact Nat.le_refl _)]; simp [sumF]; omega)
        go_wp2
        go_ret
        exact ⟨by rw [HE.out]; rfl, _, rfl⟩

end Go.Proofs.Ytfjncipekjnbjab
