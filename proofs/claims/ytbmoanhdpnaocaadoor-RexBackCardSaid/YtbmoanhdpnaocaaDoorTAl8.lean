/- shibbolethlaw06.Alike. -/
import Derived.Test.YtbmoanhdpnaocaaDoorTAlN1a
import Derived.Test.YtbmoanhdpnaocaaDoorTAlN1b
import Derived.Test.YtbmoanhdpnaocaaDoorTAlN2a
import Derived.Test.YtbmoanhdpnaocaaDoorTAlN2b
import Derived.Test.YtbmoanhdpnaocaaDoorTAl3
import Derived.Test.YtbmoanhdpnaocaaDoorTAl4
import Derived.Test.YtbmoanhdpnaocaaDoorTAl5
import Derived.Test.YtbmoanhdpnaocaaDoorTAl6
import Derived.Test.YtbmoanhdpnaocaaDoorTAl7
namespace Go.Proofs.YtbmoanhdpnaocaaDoor
open Go.RowKit Sets Tr
theorem alike_any (W : World) (nv pv mv qv : Value) (N M : List Nd) (hN : NodesAt W nv N) (hM : NodesAt W mv M) (sn : ∀ i, i < N.length → sound (N.getD i default) = true) (sm : ∀ i, i < M.length → sound (M.getD i default) = true) :
    ∀ (n : Nat) (t u : T), (t.sum fun _ => 1) ≤ n → Is N t → Is M u → Alk W nv pv mv qv t.root u.root (decide (abs N t = abs M u)) := by
  intro n
  induction n with
  | zero => intro t u hs; have := T.sum_pos t; omega
  | succ n ih =>
    intro t u hsz ht hu
    by_cases h1 : (N.getD t.root default).k = (M.getD u.root default).k
    case neg => exact alk_n1a W nv pv mv qv N M hN hM sn sm n ih t u hsz ht hu h1
    by_cases h2 : (N.getD t.root default).s = (M.getD u.root default).s
    case neg => exact alk_n1b W nv pv mv qv N M hN hM sn sm n ih t u hsz ht hu ⟨h1, h2⟩
    by_cases h3 : (N.getD t.root default).mn = (M.getD u.root default).mn
    case neg => exact alk_n2a W nv pv mv qv N M hN hM sn sm n ih t u hsz ht hu ⟨⟨h1, h2⟩, h3⟩
    by_cases h4 : (N.getD t.root default).mx = (M.getD u.root default).mx
    case neg => exact alk_n2b W nv pv mv qv N M hN hM sn sm n ih t u hsz ht hu ⟨⟨h1, h2⟩, h3, h4⟩
    have e := And.intro h1 (And.intro h2 (And.intro h3 h4))
    rcases (sound_fields (sn _ ht.lt)).1 with k | k | k | k | k
    · exact alk_a1 W nv pv mv qv N M hN hM sn sm n ih t u hsz ht hu ⟨e, k⟩
    · exact alk_a2 W nv pv mv qv N M hN hM sn sm n ih t u hsz ht hu ⟨e, k⟩
    · exact alk_c3 W nv pv mv qv N M hN hM sn sm n ih t u hsz ht hu ⟨e, k⟩
    · exact alk_c4 W nv pv mv qv N M hN hM sn sm n ih t u hsz ht hu ⟨e, k⟩
    · exact alk_b W nv pv mv qv N M hN hM sn sm n ih t u hsz ht hu ⟨e, k⟩
end Go.Proofs.YtbmoanhdpnaocaaDoor
