"""Points that stay spread."""
