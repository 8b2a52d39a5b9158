import Derived.Test.YtandblanpafjoabGreatDoorWireE
namespace Go.Proofs.YtandblanpafjoabGreatDoor
open Go.RowKit Go.Extern.Stop Go.Stop Go.Extern

theorem downL_end (t : Nat) (l : List FlyM) (i n : Nat) (h : n ≤ 2 * i + 1) : downL t l i n = l := by
  cases t with
  | zero => rfl
  | succ t => simp only [downL, if_pos h]
set_option maxRecDepth 10000 in
set_option maxHeartbeats 2000000 in
theorem down_any (nb o g cap n t : Nat) (bl : Nat → Nat) (l : List FlyM) (w : World) (h : QP w nb o g cap bl l) (hn : n ≤ l.length) (ht : n ≤ t) (hlen : l.length ≤ 1000000) :
    Calls Tryz.prog 103 #[.iface 125 (.pointer (some ⟨nb, o, none⟩)), .int .i64 0, .int .i64 (n : Int)] w fun e w' => (∃ v, e = .returned v) ∧ QP w' nb o g cap bl (downL t l 0 n) ∧ Chg (fun k => k = g) w w' := by
  obtain ⟨R, hR⟩ : ∃ R, downL t l 0 n = R := ⟨_, rfl⟩
  rw [hR]
  have HR := hide hR
  have HQ := hide h
  clear h hR
  go_enter Tryz.func103, Tryz.ntmps103
  go_wp2_with fail
  go_loopw [7] (fun s wr => ∃ (t' : Nat) (l' : List FlyM) (i' : Nat), s = .int .i64 (i' : Int) ∧ n ≤ i' + t' ∧ n ≤ l'.length ∧ l'.length ≤ 1000000 ∧ i' ≤ 1000000 ∧ downL t' l' i' n = R ∧ QP wr nb o g cap bl l' ∧ Chg (fun k => k = g) w wr) (fun s _ => n - (intOf s).toNat)
  case atStart => exact ⟨t, l, 0, rfl, by omega, hn, hlen, by omega, unhide HR, unhide HQ, Chg.refl _ _⟩
  case round =>
    obtain ⟨t1, l1, i1, rfl, h1, h2, h3, hi6, h4, hq, hc⟩ := hrel
    have hw1 := i64_id (2 * (i1 : Int)) (by omega) (by omega)
    have hw2 := i64_id (2 * (i1 : Int) + 1) (by omega) (by omega)
    have hw3 := i64_id (2 * (i1 : Int) + 1 + 1) (by omega) (by omega)
    obtain ⟨a, ha⟩ : ∃ a : Nat, 2 * i1 + 1 = a := ⟨_, rfl⟩
    have ea : 2 * (i1 : Int) + 1 = (a : Int) := by omega
    rw [ea] at hw2 hw3
    obtain ⟨b, hb⟩ : ∃ b : Nat, a + 1 = b := ⟨_, rfl⟩
    have eb : (a : Int) + 1 = (b : Int) := by omega
    rw [eb] at hw3
    have hm1 := mLess ⟨nb, o, none⟩ wr _ (loadQ nb o wr _ hq.cell)
    have H4 := hide (And.intro h4 (And.intro hq hc))
    clear h4 hq hc
    have d0 : decide ((a : Int) < 0) = false := by simp
    by_cases hna : n ≤ a
    · have d1 : decide (n ≤ a) = true := by simp [hna]
      have HA := hide (And.intro ha (And.intro hb hna))
      clear ha hb hna
      go_wp2
      go_ret
      obtain ⟨h4, hq, hc⟩ := unhide H4
      obtain ⟨ha, hb, hna⟩ := unhide HA
      refine ⟨⟨_, rfl⟩, ?_, hc⟩
      rw [downL_end t1 l1 i1 n (by omega)] at h4
      rw [← h4]; exact hq
    · have d1 : decide (n ≤ a) = false := by simp; omega
      have hil : i1 < l1.length := by omega
      have HN1 := hide (show ¬ n ≤ 2 * i1 + 1 by omega)
      by_cases hnb : b < n
      · have d2 : decide (b < n) = true := by simp; omega
        have hal : a < l1.length := by omega
        have hbl2 : b < l1.length := by omega
        have HA := hide (And.intro ha (And.intro hb (And.intro hna hnb)))
        clear ha hb hna hnb
        go_wp2_with fail
        refine (qless_any g cap b a bl l1 wr (unhide H4).2.1.q hbl2 hal).mono ?_
        rintro e w2 ⟨rfl, hb2⟩
        have hq2 := (unhide H4).2.1.below hb2
        have hm2 := mLess ⟨nb, o, none⟩ w2 _ (loadQ nb o w2 _ hq2.cell)
        have H2 := hide (And.intro hb2 hq2)
        clear hb2 hq2 hm1
        by_cases hk : before (fl l1 b) (fl l1 a)
        · have hdk : decide (before (fl l1 b) (fl l1 a)) = true := decide_eq_true hk
          have HK : Hid (kidL l1 i1 n = b) := hide (by
            obtain ⟨ha, hb, hna, hnb⟩ := unhide HA
            unfold kidL
            rw [show 2 * i1 + 2 = b by omega, show 2 * i1 + 1 = a by omega, if_pos ⟨hnb, hk⟩])
          clear hk
          rw [hdk]
          clear hdk
          have hcl := hbl2
          have hci : i1 < b ∧ b ≤ 1000000 := by obtain ⟨ha, hb, hna, hnb⟩ := unhide HA; omega
          have hst : n - b < n - i1 := by obtain ⟨ha, hb, hna, hnb⟩ := unhide HA; omega
          go_wp2_with fail
          have hq3 := (unhide H2).2
          refine (qless_any g cap b i1 bl l1 w2 hq3.q hcl hil).mono ?_
          rintro e w3 ⟨rfl, hb3⟩
          have hq4 := hq3.below hb3
          have hm3 := mSwap ⟨nb, o, none⟩ w3 _ (loadQ nb o w3 _ hq4.cell)
          have H3 := hide (And.intro hb3 hq4)
          clear hb3 hq3 hq4 hm2
          by_cases hbf : before (fl l1 b) (fl l1 i1)
          · have hdb : decide (before (fl l1 b) (fl l1 i1)) = true := decide_eq_true hbf
            have HBF := hide hbf
            clear hbf
            rw [hdb]
            clear hdb
            go_wp2_with fail
            obtain ⟨hb3, hq4⟩ := unhide H3
            refine (qswap_any g cap i1 b bl l1 w3 hq4.q hil hcl).mono ?_
            rintro e w5 ⟨rfl, hq5, hc5⟩
            have H5 := hide (And.intro hq5 hc5)
            clear hq5 hc5 hb3 hq4
            go_wp2
            obtain ⟨h4, hq, hc⟩ := unhide H4
            obtain ⟨hb2, hq2⟩ := unhide H2
            obtain ⟨hb3, hq4⟩ := unhide H3
            obtain ⟨hq5, hc5⟩ := unhide H5
            refine ⟨⟨t1 - 1, swapL l1 i1 b, b, by first | rfl | go_num, by omega, by rw [swapL_len]; exact h2, by rw [swapL_len]; exact h3, hci.2, ?_, hq4.chg hc5 hq5 (swapL_len _ _ _), ((hc.thenBelow (hb2.mono hc.size)).thenBelow (hb3.mono (Nat.le_trans hc.size hb2.size))).trans hc5 (fun _ _ h => h)⟩, by simp [intOf]; omega⟩
            obtain ⟨t2, rfl⟩ : ∃ t2, t1 = t2 + 1 := ⟨t1 - 1, by omega⟩
            have hk := unhide HK
            simp only [downL, if_neg (unhide HN1), hk, unhide HBF, if_true] at h4
            exact h4
          · have hdb : decide (before (fl l1 b) (fl l1 i1)) = false := decide_eq_false hbf
            have HBF := hide hbf
            clear hbf
            rw [hdb]
            clear hdb
            go_wp2
            go_ret
            obtain ⟨h4, hq, hc⟩ := unhide H4
            obtain ⟨hb2, hq2⟩ := unhide H2
            obtain ⟨hb3, hq4⟩ := unhide H3
            refine ⟨⟨_, rfl⟩, ?_, (hc.thenBelow (hb2.mono hc.size)).thenBelow (hb3.mono (Nat.le_trans hc.size hb2.size))⟩
            obtain ⟨t2, rfl⟩ : ∃ t2, t1 = t2 + 1 := ⟨t1 - 1, by omega⟩
            have hk := unhide HK
            simp only [downL, if_neg (unhide HN1), hk, unhide HBF, if_false] at h4
            rw [← h4]; exact hq4
        · have hdk : decide (before (fl l1 b) (fl l1 a)) = false := decide_eq_false hk
          have HK : Hid (kidL l1 i1 n = a) := hide (by
            obtain ⟨ha, hb, hna, hnb⟩ := unhide HA
            unfold kidL
            rw [show 2 * i1 + 2 = b by omega, show 2 * i1 + 1 = a by omega, if_neg (fun h => hk h.2)])
          clear hk
          rw [hdk]
          clear hdk
          have hcl := hal
          have hci : i1 < a ∧ a ≤ 1000000 := by obtain ⟨ha, hb, hna, hnb⟩ := unhide HA; omega
          have hst : n - a < n - i1 := by obtain ⟨ha, hb, hna, hnb⟩ := unhide HA; omega
          go_wp2_with fail
          have hq3 := (unhide H2).2
          refine (qless_any g cap a i1 bl l1 w2 hq3.q hcl hil).mono ?_
          rintro e w3 ⟨rfl, hb3⟩
          have hq4 := hq3.below hb3
          have hm3 := mSwap ⟨nb, o, none⟩ w3 _ (loadQ nb o w3 _ hq4.cell)
          have H3 := hide (And.intro hb3 hq4)
          clear hb3 hq3 hq4 hm2
          by_cases hbf : before (fl l1 a) (fl l1 i1)
          · have hdb : decide (before (fl l1 a) (fl l1 i1)) = true := decide_eq_true hbf
            have HBF := hide hbf
            clear hbf
            rw [hdb]
            clear hdb
            go_wp2_with fail
            obtain ⟨hb3, hq4⟩ := unhide H3
            refine (qswap_any g cap i1 a bl l1 w3 hq4.q hil hcl).mono ?_
            rintro e w5 ⟨rfl, hq5, hc5⟩
            have H5 := hide (And.intro hq5 hc5)
            clear hq5 hc5 hb3 hq4
            go_wp2
            obtain ⟨h4, hq, hc⟩ := unhide H4
            obtain ⟨hb2, hq2⟩ := unhide H2
            obtain ⟨hb3, hq4⟩ := unhide H3
            obtain ⟨hq5, hc5⟩ := unhide H5
            refine ⟨⟨t1 - 1, swapL l1 i1 a, a, by first | rfl | go_num, by omega, by rw [swapL_len]; exact h2, by rw [swapL_len]; exact h3, hci.2, ?_, hq4.chg hc5 hq5 (swapL_len _ _ _), ((hc.thenBelow (hb2.mono hc.size)).thenBelow (hb3.mono (Nat.le_trans hc.size hb2.size))).trans hc5 (fun _ _ h => h)⟩, by simp [intOf]; omega⟩
            obtain ⟨t2, rfl⟩ : ∃ t2, t1 = t2 + 1 := ⟨t1 - 1, by omega⟩
            have hk := unhide HK
            simp only [downL, if_neg (unhide HN1), hk, unhide HBF, if_true] at h4
            exact h4
          · have hdb : decide (before (fl l1 a) (fl l1 i1)) = false := decide_eq_false hbf
            have HBF := hide hbf
            clear hbf
            rw [hdb]
            clear hdb
            go_wp2
            go_ret
            obtain ⟨h4, hq, hc⟩ := unhide H4
            obtain ⟨hb2, hq2⟩ := unhide H2
            obtain ⟨hb3, hq4⟩ := unhide H3
            refine ⟨⟨_, rfl⟩, ?_, (hc.thenBelow (hb2.mono hc.size)).thenBelow (hb3.mono (Nat.le_trans hc.size hb2.size))⟩
            obtain ⟨t2, rfl⟩ : ∃ t2, t1 = t2 + 1 := ⟨t1 - 1, by omega⟩
            have hk := unhide HK
            simp only [downL, if_neg (unhide HN1), hk, unhide HBF, if_false] at h4
            rw [← h4]; exact hq4
      · have d2 : decide (b < n) = false := by simp; omega
        have hcl : a < l1.length := by omega
        have HK : Hid (kidL l1 i1 n = a) := hide (by
          unfold kidL
          rw [show 2 * i1 + 2 = b by omega, show 2 * i1 + 1 = a by omega, if_neg (fun h => hnb h.1)])
        have hci : i1 < a ∧ a ≤ 1000000 := by omega
        have hst : n - a < n - i1 := by omega
        clear ha hb hna hnb
        have H2 := hide (And.intro (Below.refl wr.heap.size wr) (unhide H4).2.1)
        generalize hw2e : wr = w2 at *
        have hm2 := hm1
        clear hm1
        go_wp2_with fail
        have hq3 := (unhide H2).2
        refine (qless_any g cap a i1 bl l1 w2 hq3.q hcl hil).mono ?_
        rintro e w3 ⟨rfl, hb3⟩
        have hq4 := hq3.below hb3
        have hm3 := mSwap ⟨nb, o, none⟩ w3 _ (loadQ nb o w3 _ hq4.cell)
        have H3 := hide (And.intro hb3 hq4)
        clear hb3 hq3 hq4 hm2
        by_cases hbf : before (fl l1 a) (fl l1 i1)
        · have hdb : decide (before (fl l1 a) (fl l1 i1)) = true := decide_eq_true hbf
          have HBF := hide hbf
          clear hbf
          rw [hdb]
          clear hdb
          go_wp2_with fail
          obtain ⟨hb3, hq4⟩ := unhide H3
          refine (qswap_any g cap i1 a bl l1 w3 hq4.q hil hcl).mono ?_
          rintro e w5 ⟨rfl, hq5, hc5⟩
          have H5 := hide (And.intro hq5 hc5)
          clear hq5 hc5 hb3 hq4
          go_wp2
          obtain ⟨h4, hq, hc⟩ := unhide H4
          obtain ⟨hb2, hq2⟩ := unhide H2
          obtain ⟨hb3, hq4⟩ := unhide H3
          obtain ⟨hq5, hc5⟩ := unhide H5
          refine ⟨⟨t1 - 1, swapL l1 i1 a, a, by first | rfl | go_num, by omega, by rw [swapL_len]; exact h2, by rw [swapL_len]; exact h3, hci.2, ?_, hq4.chg hc5 hq5 (swapL_len _ _ _), ((hc.thenBelow (hb2.mono hc.size)).thenBelow (hb3.mono (Nat.le_trans hc.size hb2.size))).trans hc5 (fun _ _ h => h)⟩, by simp [intOf]; omega⟩
          obtain ⟨t2, rfl⟩ : ∃ t2, t1 = t2 + 1 := ⟨t1 - 1, by omega⟩
          have hk := unhide HK
          simp only [downL, if_neg (unhide HN1), hk, unhide HBF, if_true] at h4
          exact h4
        · have hdb : decide (before (fl l1 a) (fl l1 i1)) = false := decide_eq_false hbf
          have HBF := hide hbf
          clear hbf
          rw [hdb]
          clear hdb
          go_wp2
          go_ret
          obtain ⟨h4, hq, hc⟩ := unhide H4
          obtain ⟨hb2, hq2⟩ := unhide H2
          obtain ⟨hb3, hq4⟩ := unhide H3
          refine ⟨⟨_, rfl⟩, ?_, (hc.thenBelow (hb2.mono hc.size)).thenBelow (hb3.mono (Nat.le_trans hc.size hb2.size))⟩
          obtain ⟨t2, rfl⟩ : ∃ t2, t1 = t2 + 1 := ⟨t1 - 1, by omega⟩
          have hk := unhide HK
          simp only [downL, if_neg (unhide HN1), hk, unhide HBF, if_false] at h4
          rw [← h4]; exact hq4
end Go.Proofs.YtandblanpafjoabGreatDoor
