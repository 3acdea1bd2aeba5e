/-
  The generators of the laws of chapter 4: texts of offers, a table.
-/
import Derived.Test.YtmgdhljlbcfefaaQa
import Derived.Test.YtmgdhljlbcfefaaQb
import Derived.Test.YtmgdhljlbcfefaaTg
namespace Go.Proofs.Ytmgdhljlbcfefaa
open Go.RowKit Go.Lib

theorem sv_bd9 {ts : List (List Int)} (h : ∀ t ∈ ts, ∀ s, s < 8 → T t s ≤ 9) : ∀ x : Nat, x < 8 → sv ts x ≤ 9 * ts.length := by
  induction ts with
  | nil => intro x _; simp [sv]
  | cons t ts ih =>
    intro x hx
    simp only [sv]
    refine mx_le (by omega) (fun s hs => ?_)
    have h1 := ih (fun u hu => h u (by simp [hu])) (x - s) (by omega)
    have h2 := h t (by simp) s (subs_lt hs)
    simp only [List.length_cons]
    omega
/-- Two who want one thing each are a table. -/
theorem ones_join {a b : List Int} (ha : Ones a) (hb : Ones b) : VT (jnT a b) := by
  have hz : ∀ t ∈ [a, b], T t 0 = 0 := by
    intro t ht
    simp at ht
    rcases ht with rfl | rfl
    · exact ha.1.2.1
    · exact hb.1.2.1
  have h9 : ∀ t ∈ [a, b], ∀ s, s < 8 → T t s ≤ 9 := by
    intro t ht
    simp at ht
    rcases ht with rfl | rfl
    · exact ha.2
    · exact hb.2
  have hT : ∀ s, s < 8 → T (jnT a b) s = sv [a, b] s := fun s hs => T_of (jnT_at a b hs)
  refine ⟨jnT_len a b, ?_, fun s hs => ⟨?_, fun j hj hbit => ?_⟩⟩
  · rw [hT 0 (by omega)]
    refine Int.le_antisymm ?_ (sv_nonneg _ _)
    simp [sv, subs, mx, hz a (by simp), hz b (by simp), List.range, List.range.loop]
  · rw [hT s hs]
    have h1 := sv_nonneg [a, b] s
    have h2 := sv_bd9 h9 s hs
    simp at h2
    omega
  · have h8 : s + 2 ^ j < 8 := by
      rcases nat8 hs with rfl | rfl | rfl | rfl | rfl | rfl | rfl | rfl <;> rcases nat3 hj with rfl | rfl | rfl <;> first | omega | (exfalso; revert hbit; decide)
    rw [hT s hs, hT _ h8]
    refine sv_more hz h8 ?_
    rcases nat8 hs with rfl | rfl | rfl | rfl | rfl | rfl | rfl | rfl <;> rcases nat3 hj with rfl | rfl | rfl <;> first | decide | (exfalso; revert hbit; decide)

/-- What offerText hands back: a text, not long. -/
def OtxIs (w : World) (rb k : Nat) (e : Ending) (w' : World) : Prop := ∃ s : ByteArray, e = .returned (.string s) ∧ s.size ≤ 1000 ∧ Rdr w' rb k ∧ w.grownBy w' (some rb)

set_option maxHeartbeats 2000000 in
set_option maxRecDepth 100000 in
theorem offerText_any (rb k : Nat) (w : World) (h : Rdr w rb k) (hk : k + 20 ≤ 1000000) :
    Calls Try.prog 107 #[.pointer (some ⟨rb, 0, none⟩)] w (OtxIs w rb (k + 12)) := by
  have hl := h.lt
  go_enter Try.func107, Try.ntmps107
  go_wp2_with fail
  have HC := Lib.hid (lit_str w [⟨#[32, 120, 111, 114, 32]⟩, ⟨#[32, 111, 114, 32]⟩, ⟨#[32, 120, 111, 114, 32]⟩])
  have HR := Lib.hid (h.alloc (.cells #[.string ⟨#[32, 120, 111, 114, 32]⟩, .string ⟨#[32, 111, 114, 32]⟩, .string ⟨#[32, 120, 111, 114, 32]⟩] 9))
  refine (of_any rb k w.heap.size _ 3 _ _ rfl HR.out HC.out (by omega) (by decide) (by decide) (by omega)).mono ?_
  rintro e w1 ⟨wd, hwd, rfl, hr1, hg1⟩
  have hwz : wd.size ≤ 5 := by
    simp only [List.mem_cons, List.not_mem_nil, or_false] at hwd
    rcases hwd with rfl | rfl | rfl <;> decide
  have gg1 := (World.grownBy_alloc w (.cells #[.string ⟨#[32, 120, 111, 114, 32]⟩, .string ⟨#[32, 111, 114, 32]⟩, .string ⟨#[32, 120, 111, 114, 32]⟩] 9) (some rb)).trans hg1
  clear hwd HC HR hg1
  go_wp2_with fail
  refine (one_new rb (k + 1) 5 [2, 3, 1, 4, 5] _ w1 rfl rfl hr1 (by decide) (by decide) (by omega)).mono ?_
  rintro e w2 ⟨n, hn, rfl, hr2, hg2⟩
  have hn0 : 0 ≤ n := by simp only [List.mem_cons, List.not_mem_nil, or_false] at hn; omega
  have hn5 : n ≤ 5 := by simp only [List.mem_cons, List.not_mem_nil, or_false] at hn; omega
  have gg2 := gg1.trans hg2
  have hl2 : rb < w2.heap.size := hr2.lt
  clear hn hr1 gg1 hg2
  go_wp2_with fail
  go_loopw [4, 5] (fun sv nv wr => ∃ (s : ByteArray) (m : Nat), sv = .string s ∧ nv = .int .i64 (m : Int) ∧ m ≤ 5 ∧ s.size ≤ 20 * (5 - m) ∧ Rdr wr rb (k + 2 + 2 * (5 - m)) ∧ w.grownBy wr (some rb)) (fun _ i _ => (intOf i).toNat)
  case atStart => exact ⟨⟨#[]⟩, n.toNat, rfl, by rw [Int.toNat_of_nonneg hn0], by omega, by simp [ByteArray.size], hr2.more (by omega), gg2⟩
  case round =>
    obtain ⟨s, m, rfl, rfl, hm, hsz, hr, hg⟩ := hrel
    rcases m with _ | m
    · go_wp2
      go_ret
      exact ⟨s, rfl, by omega, hr.more (by omega), hg⟩
    · have hlt := hr.lt
      have hmp : (0 : Int) < ((m + 1 : Nat) : Int) := by omega
      have HOF : Hid (∀ w', Rdr w' rb (k + 2 + 2 * (5 - (m + 1))) → rb < w'.heap.size → Calls Try.prog 117 #[.pointer (some ⟨rb, 0, none⟩), .slice (some ⟨w'.heap.size, 0, none⟩) 9 9] (w'.alloc (.cells #[.string ⟨#[97]⟩, .string ⟨#[98]⟩, .string ⟨#[99]⟩, .string ⟨#[97, 98]⟩, .string ⟨#[98, 99]⟩, .string ⟨#[97, 99]⟩, .string ⟨#[97, 98, 99]⟩, .string ⟨#[97]⟩, .string ⟨#[98]⟩] 9)) fun e w'' => ∃ s : ByteArray, s.size ≤ 3 ∧ e = .returned (.string s) ∧ Rdr w'' rb (k + 2 + 2 * (5 - (m + 1)) + 1) ∧ w'.grownBy w'' (some rb)) := Lib.hid (fun w' hr' hl' => by
        refine (of_any rb _ w'.heap.size 9 9 [⟨#[97]⟩, ⟨#[98]⟩, ⟨#[99]⟩, ⟨#[97, 98]⟩, ⟨#[98, 99]⟩, ⟨#[97, 99]⟩, ⟨#[97, 98, 99]⟩, ⟨#[97]⟩, ⟨#[98]⟩] _ rfl (hr'.alloc _) (lit_str w' [⟨#[97]⟩, ⟨#[98]⟩, ⟨#[99]⟩, ⟨#[97, 98]⟩, ⟨#[98, 99]⟩, ⟨#[97, 99]⟩, ⟨#[97, 98, 99]⟩, ⟨#[97]⟩, ⟨#[98]⟩]) (by omega) (by decide) (by decide) (by omega)).mono ?_
        rintro e w'' ⟨s', hs', rfl, hr'', hg''⟩
        refine ⟨s', ?_, rfl, hr'', (World.grownBy_alloc w' _ (some rb)).trans hg''⟩
        simp only [List.mem_cons, List.not_mem_nil, or_false] at hs'
        rcases hs' with rfl | rfl | rfl | rfl | rfl | rfl | rfl | rfl | rfl <;> decide)
      rcases hem : s.toList.isEmpty with _ | _
      · have hcat : ¬ 9223372036854775807 < s.size + wd.size := by omega
        go_wp2_with fail
        refine (HOF.out wr hr hlt).mono ?_
        rintro e w3 ⟨u, hu, rfl, hr3, hg3⟩
        have gg3 := hg.trans hg3
        have c1 : ¬ 9223372036854775807 < (s ++ wd).size + u.size := by rw [ByteArray.size_append]; omega
        have c2 : ¬ 9223372036854775807 < (s ++ wd ++ u).size + (⟨#[58]⟩ : ByteArray).size := by rw [ByteArray.size_append, ByteArray.size_append]; have : (⟨#[58]⟩ : ByteArray).size = 1 := rfl; omega
        clear hg hg3 hr
        go_wp2_with fail
        refine (pick_any rb _ 10 w3 hr3 (by omega) (by decide) (by decide)).mono ?_
        rintro e w4 ⟨q, rfl, hq0, hq1, hr4, hg4⟩
        obtain ⟨q, rfl⟩ := Int.eq_ofNat_of_zero_le hq0
        have gg4 := gg3.trans hg4
        have hd := dec_len q
        have c3 : ¬ 9223372036854775807 < (s ++ wd ++ u ++ (⟨#[58]⟩ : ByteArray)).size + (sB (decDigits q)).size := by rw [ByteArray.size_append, ByteArray.size_append, ByteArray.size_append, sB_size]; have : (⟨#[58]⟩ : ByteArray).size = 1 := rfl; omega
        have HZ : Hid ((s ++ wd ++ u ++ (⟨#[58]⟩ : ByteArray) ++ sB (decDigits q)).size ≤ 20 * (5 - m)) := Lib.hid (by rw [ByteArray.size_append, ByteArray.size_append, ByteArray.size_append, ByteArray.size_append, sB_size]; have : (⟨#[58]⟩ : ByteArray).size = 1 := rfl; omega)
        have HQN := Lib.hid (fun w => Snumber_any 1 q (by omega) (by omega) w)
        clear gg3 hg4 hr3 hq0 hq1 hd HOF
        go_wp2_with fail
        refine (HQN.out _).mono ?_
        rintro e w5 ⟨rfl, j, rfl⟩
        go_wp2
        go_roundw
        case rel => exact ⟨_, m, rfl, by go_num, by omega, HZ.out, (hr4.drewN j).more (by omega), gb_drewN gg4 j⟩
        case measure => simp only [intOf]; omega
      · go_wp2_with fail
        refine (HOF.out wr hr hlt).mono ?_
        rintro e w3 ⟨u, hu, rfl, hr3, hg3⟩
        have gg3 := hg.trans hg3
        have c1 : ¬ 9223372036854775807 < (s).size + u.size := by omega
        have c2 : ¬ 9223372036854775807 < (s ++ u).size + (⟨#[58]⟩ : ByteArray).size := by rw [ByteArray.size_append]; have : (⟨#[58]⟩ : ByteArray).size = 1 := rfl; omega
        clear hg hg3 hr
        go_wp2_with fail
        refine (pick_any rb _ 10 w3 hr3 (by omega) (by decide) (by decide)).mono ?_
        rintro e w4 ⟨q, rfl, hq0, hq1, hr4, hg4⟩
        obtain ⟨q, rfl⟩ := Int.eq_ofNat_of_zero_le hq0
        have gg4 := gg3.trans hg4
        have hd := dec_len q
        have c3 : ¬ 9223372036854775807 < (s ++ u ++ (⟨#[58]⟩ : ByteArray)).size + (sB (decDigits q)).size := by rw [ByteArray.size_append, ByteArray.size_append, sB_size]; have : (⟨#[58]⟩ : ByteArray).size = 1 := rfl; omega
        have HZ : Hid ((s ++ u ++ (⟨#[58]⟩ : ByteArray) ++ sB (decDigits q)).size ≤ 20 * (5 - m)) := Lib.hid (by rw [ByteArray.size_append, ByteArray.size_append, ByteArray.size_append, sB_size]; have : (⟨#[58]⟩ : ByteArray).size = 1 := rfl; omega)
        have HQN := Lib.hid (fun w => Snumber_any 1 q (by omega) (by omega) w)
        clear gg3 hg4 hr3 hq0 hq1 hd HOF
        go_wp2_with fail
        refine (HQN.out _).mono ?_
        rintro e w5 ⟨rfl, j, rfl⟩
        go_wp2
        go_roundw
        case rel => exact ⟨_, m, rfl, by go_num, by omega, HZ.out, (hr4.drewN j).more (by omega), gb_drewN gg4 j⟩
        case measure => simp only [intOf]; omega

end Go.Proofs.Ytmgdhljlbcfefaa
